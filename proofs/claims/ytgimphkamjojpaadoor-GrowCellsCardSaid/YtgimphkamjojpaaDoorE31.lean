/-
  THE WALK of the maker's sixteen. Conditions: the grower lies in memory.
-/
import Derived.Test.YtgimphkamjojpaaDoorE30
namespace Go.Proofs.YtgimphkamjojpaaDoor
open Go.RowKit Ti Qd Go.Maps Go.WideMaps

theorem Gs.setRow {B : Nat} {w0 w : World} {H0 : Nat → Prop} {G P M b l room : Nat} {s : GS} {bx : List (Nat × Obj)} {g : Nat} {T : TypeId} {old : Array Value} (h : Gs B w0 H0 G P M b l room s ((g, .cells old T) :: bx) w) (cs : Array Value) : Gs B w0 H0 G P M b l room s ((g, .cells cs T) :: bx) (w.setRow g cs) := by
  obtain ⟨⟨H, h1, h2, h3⟩, h4, h5⟩ := h
  have hg := h3 _ (List.mem_cons_self)
  rw [List.map_cons, List.nodup_cons] at h4
  have ne : ∀ x, ¬ g = x → (w.setRow g cs).heap[x]? = w.heap[x]? := fun x hx => setRow_other w g x cs (fun e => hx e.symm)
  have gr : Gr B (w.setRow g cs) G P M b l s room H := by
    obtain ⟨Hs, hs, rfl⟩ := h1
    exact ⟨Hs, hs.moved (ne _ fun e => by have := hg.1; simp only at this; omega) (ne _ fun e => hg.2.1 (.inl e)) (fun x hx => ne _ fun e => hg.2.1 (.inr (e ▸ hx))), rfl⟩
  refine ⟨⟨H, gr, ⟨h2.os, h2.tape, h2.output, by simpa [World.setRow] using h2.size, fun k hk hn => (ne k fun e => by have := hg.1; simp only at this; omega).trans (h2.block k hk hn), h2.own⟩, fun x hx => ?_⟩, by rw [List.map_cons, List.nodup_cons]; exact h4, h5⟩
  rcases List.mem_cons.1 hx with rfl | hx
  · exact ⟨hg.1, hg.2.1, setRow_heap _ _ _ _ _ _ hg.2.2⟩
  · exact ⟨(h3 x (List.mem_cons_of_mem _ hx)).1, (h3 x (List.mem_cons_of_mem _ hx)).2.1, (ne _ fun q => h4.1 (List.mem_map.2 ⟨x, hx, q.symm⟩)).trans (h3 x (List.mem_cons_of_mem _ hx)).2.2⟩
theorem Gs.tail {B : Nat} {w0 w : World} {H0 : Nat → Prop} {G P M b l room : Nat} {s : GS} {bx : List (Nat × Obj)} {x : Nat × Obj} (h : Gs B w0 H0 G P M b l room s (x :: bx) w) : Gs B w0 H0 G P M b l room s bx w :=
  h.sub (fun y hy => List.mem_cons_of_mem _ hy) (by have := h.nd; rw [List.map_cons, List.nodup_cons] at this; exact this.2)
/-- the sixteen, so many laid -/
def lyF (q : Nat → Int) (c : Nat) : Nat → Int := fun p => if (p / 8 * 2 + p % 4 / 2) * 4 + (p / 4 % 2 * 2 + p % 2) < c then q p else 0
def lyP (i j : Nat) : Nat := 4 * (i / 2 * 2 + j / 2) + i % 2 * 2 + j % 2
theorem ly_code (p : Nat) : p / 8 * 2 * 4 + p % 4 / 2 * 4 + (p / 4 % 2 * 2 + p % 2) = 8 * (p / 8) + 4 * (p % 4 / 2) + 2 * (p / 4 % 2) + p % 2 ∧ p = 8 * (p / 8) + 4 * (p / 4 % 2) + 2 * (p % 4 / 2) + p % 2 := by omega
theorem ly_eq (p i j : Nat) (hi : i < 4) (hj : j < 4) (h : (p / 8 * 2 + p % 4 / 2) * 4 + (p / 4 % 2 * 2 + p % 2) = 4 * i + j) : p = lyP i j := by
  have h1 := ly_code p
  unfold lyP
  rcases (show i = 0 ∨ i = 1 ∨ i = 2 ∨ i = 3 by omega) with rfl | rfl | rfl | rfl <;> rcases (show j = 0 ∨ j = 1 ∨ j = 2 ∨ j = 3 by omega) with rfl | rfl | rfl | rfl <;> omega
theorem ly_pos (i j : Nat) (hi : i < 4) (hj : j < 4) : (lyP i j / 8 * 2 + lyP i j % 4 / 2) * 4 + (lyP i j / 4 % 2 * 2 + lyP i j % 2) = 4 * i + j := by
  unfold lyP
  rcases (show i = 0 ∨ i = 1 ∨ i = 2 ∨ i = 3 by omega) with rfl | rfl | rfl | rfl <;> rcases (show j = 0 ∨ j = 1 ∨ j = 2 ∨ j = 3 by omega) with rfl | rfl | rfl | rfl <;> rfl
theorem ly_step (q : Nat → Int) (i j : Nat) (hi : i < 4) (hj : j < 4) : upd (lyF q (4 * i + j)) (lyP i j) (q (lyP i j)) = lyF q (4 * i + (j + 1)) := by
  funext p
  unfold upd lyF
  by_cases e : p = lyP i j
  · rw [if_pos e, if_pos (by subst e; have := ly_pos i j hi hj; omega), e]
  · rw [if_neg e]
    by_cases h : (p / 8 * 2 + p % 4 / 2) * 4 + (p / 4 % 2 * 2 + p % 2) < 4 * i + j
    · rw [if_pos h, if_pos (by omega)]
    · rw [if_neg h, if_neg (fun k => e (ly_eq p i j hi hj (by omega)))]
theorem ly_all (q : Nat → Int) : ir (lyF q 16) 16 = ir q 16 := ir_ext fun p hp => by
  unfold lyF
  rw [if_pos (by omega)]
def sx4 (L : List Sq) (f : Nat → Int) (k : Nat) : Int := kid (at' L (f (k / 8 * 2 + k % 4 / 2))) (k / 4 % 2 * 2 + k % 2)
theorem sx4_at (L : List Sq) (f : Nat → Int) (i j : Nat) (hi : i < 4) (hj : j < 4) : sx4 L f (lyP i j) = kid (at' L (f i)) j := by
  unfold sx4 lyP
  rcases (show i = 0 ∨ i = 1 ∨ i = 2 ∨ i = 3 by omega) with rfl | rfl | rfl | rfl <;> rcases (show j = 0 ∨ j = 1 ∨ j = 2 ∨ j = 3 by omega) with rfl | rfl | rfl | rfl <;> rfl
set_option maxRecDepth 100000 in
theorem info_16 (F : Nat → Int) : (Tryd.prog.info? 147).map (·.size) = some (ir F 16).size := by
  rw [ir_size]
  kernel_rfl
abbrev z16 : Obj := .cells #[.int .i64 0, .int .i64 0, .int .i64 0, .int .i64 0, .int .i64 0, .int .i64 0, .int .i64 0, .int .i64 0, .int .i64 0, .int .i64 0, .int .i64 0, .int .i64 0, .int .i64 0, .int .i64 0, .int .i64 0, .int .i64 0] 147
theorem ir_one (F : Nat → Int) (n : Nat) : (ir F n).all (·.oneCell') = true := by
  rw [Array.all_eq_true]
  intro i hi
  simp [ir, Value.oneCell']
set_option maxRecDepth 100000 in
set_option maxHeartbeats 4000000 in
theorem sixteen_ok {B : Nat} {w : World} {G P M b l : Nat} {s : GS} {room : Nat} {H : Nat → Prop} (h : Gr B w G P M b l s room H) (f : Nat → Int) (n : Nat) (hf : ∀ i, i < 4 → Lv s.1 (n + 1) (f i)) :
    Calls Tryd.prog 70 #[.pointer (some ⟨G, 0, none⟩), vb4 f] w fun e w' => e = .returned (.tuple #[.agg (ir (sx4 s.1 f) 16), .nilIface]) ∧ Gt B w G P M b l room H s w' := by
  have HS : Hid (Gs B w H G P M b l room s [(w.heap.size + 1 + 1, .cells (ir (lyF (sx4 s.1 f) (4 * 0)) 16) 147), (w.heap.size + 1, .cells (ir (fun _ => 0) 16) 147), (w.heap.size, ob4 f)] (((w.alloc (.cells #[.int .i64 (f 0), .int .i64 (f 1), .int .i64 (f 2), .int .i64 (f 3)] 71)).alloc z16).alloc z16)) := Lib.hid ((((Gs.start h).alloc' (ob4 f) rfl).alloc' (.cells (ir (fun _ => 0) 16) 147) (n := w.heap.size + 1) (by simp)).alloc' (.cells (ir (fun _ => 0) 16) 147) (n := w.heap.size + 1 + 1) (by simp))
  have HF := Lib.hid hf
  clear h hf
  go_enter Tryd.func70, Tryd.ntmps70
  go_wp2
  generalize World.alloc _ _ = W at HS ⊢
  go_loopw [5, 14] (fun v i wr => ∃ k : Nat, k ≤ 4 ∧ v = .nilIface ∧ i = .int .i64 k ∧ Hid (Gs B w H G P M b l room s [(w.heap.size + 1 + 1, .cells (ir (lyF (sx4 s.1 f) (4 * k)) 16) 147), (w.heap.size + 1, .cells (ir (fun _ => 0) 16) 147), (w.heap.size, ob4 f)] wr)) (fun _ i _ => 4 - (intOf i).toNat)
  case atStart => exact ⟨0, by omega, rfl, rfl, HS⟩
  case round =>
    clear HS
    obtain ⟨k, hk, rfl, rfl, HR⟩ := hrel
    have k0 : (0 : Int) ≤ (k : Int) := by omega
    by_cases hlt : k < 4
    · have k1 : (k : Int) < 4 := by omega
      have hx := idx4 f k hlt
      have hp := HR.out.ptr
      obtain ⟨Hs, hst, _⟩ := HR.out.store
      have HC := Lib.hid (kids_ok hst n (f k) (HF.out k hlt) _ rfl)
      have HLT := Lib.hid hlt
      have HAT := Lib.hid (fun j hj => sx4_at s.1 f k j hlt hj)
      clear hst
      generalize f k = fk at *
      generalize at' s.1 fk = q at *
      go_wp2_with fail
      refine HC.out.mono ?_
      rintro e w1 ⟨rfl, hb⟩
      have HR1 := Lib.hid ((HR.out.below hb).alloc (.cells #[.int .i64 q.k0, .int .i64 q.k1, .int .i64 q.k2, .int .i64 q.k3] 71))
      clear hb HR hx hp HC
      go_upto_region 8 with (fail)
      generalize World.alloc _ _ = W1 at HR1 ⊢
      have hc := HR1.out.b0
      have hr4 := row4 hc
      obtain ⟨c0, c1, c2, c3⟩ := hr4
      obtain ⟨g9, hg9⟩ : ∃ g, g = w1.heap.size := ⟨_, rfl⟩
      rw [← hg9] at HR1 c0 c1 c2 c3 ⊢
      clear hg9 hc
      have HR2 : Hid (Gs B w H G P M b l room s [(w.heap.size + 1 + 1, .cells (ir (lyF (sx4 s.1 f) (4 * k + 0)) 16) 147), (w.heap.size + 1, .cells (ir (fun _ => 0) 16) 147), (w.heap.size, ob4 f)] W1) := Lib.hid HR1.out.tail
      clear HR1
      go_wp2
      go_loopw [32] (fun i wr => ∃ j : Nat, j ≤ 4 ∧ i = .int .i64 j ∧ Hid (Gs B w H G P M b l room s [(w.heap.size + 1 + 1, .cells (ir (lyF (sx4 s.1 f) (4 * k + j)) 16) 147), (w.heap.size + 1, .cells (ir (fun _ => 0) 16) 147), (w.heap.size, ob4 f)] wr)) (fun i _ => 4 - (intOf i).toNat)
      case atStart => exact ⟨0, by omega, rfl, HR2⟩
      case round =>
        clear HR2 c0 c1 c2 c3
        obtain ⟨j, hj, rfl, HQ⟩ := hrel
        have j0 : (0 : Int) ≤ (j : Int) := by omega
        by_cases hjt : j < 4
        · have j1 : (j : Int) < 4 := by omega
          have hx : ∀ W, (Instr.index 71 (.agg #[.int .i64 q.k0, .int .i64 q.k1, .int .i64 q.k2, .int .i64 q.k3]) (.int .i64 (j : Int))).run Tryd.prog W = .ok (.int .i64 (kid q j)) W := idx4 (kid q) j hjt
          have HAJ := Lib.hid (HAT.out j hjt)
          have HJ := Lib.hid hjt
          generalize kid q j = x at *
          have b2 : 4 * (k / 2 * 2 + j / 2) + k % 2 * 2 + j % 2 < 16 := by omega
          have b0 : (0 : Int) ≤ 4 * ((k : Int) / 2 * 2 + (j : Int) / 2) + (k : Int) % 2 * 2 + (j : Int) % 2 := by omega
          have b1 : 4 * ((k : Int) / 2 * 2 + (j : Int) / 2) + (k : Int) % 2 * 2 + (j : Int) % 2 < 16 := by omega
          have hc := ir_cell HQ.out.b0 (4 * (k / 2 * 2 + j / 2) + k % 2 * 2 + j % 2) b2
          have hf := ir_fro HQ.out.b0 (4 * (k / 2 * 2 + j / 2) + k % 2 * 2 + j % 2)
          have HP := Lib.hid (show (wr.setCell ⟨w.heap.size + 1 + 1, 4 * (k / 2 * 2 + j / 2) + k % 2 * 2 + j % 2, none⟩ (.int .i64 x)).heap[w.heap.size + 1 + 1]? = some (.cells (ir (lyF (sx4 s.1 f) (4 * k + (j + 1))) 16) 147) from by
            rw [← ly_step (sx4 s.1 f) k j HLT.out HJ.out, HAJ.out]
            exact ir_put HQ.out.b0 (lyP k j) x)
          generalize lyF (sx4 s.1 f) (4 * k + j) (4 * (k / 2 * 2 + j / 2) + k % 2 * 2 + j % 2) = old at *
          go_wp2
          go_roundw
          case rel => exact ⟨j + 1, by have := HJ.out; omega, by go_num, Lib.hid (HQ.out.set HP.out)⟩
          case measure => have := HJ.out; simp [intOf]; omega
        · obtain rfl : j = 4 := by omega
          go_wp2
          go_roundw
          case rel => exact ⟨k + 1, by have := HLT.out; omega, rfl, by go_num, Lib.hid HQ.out⟩
          case measure => have := HLT.out; simp [intOf]; omega
    · obtain rfl : k = 4 := by omega
      have h0 : wr.heap[w.heap.size + 1 + 1]? = some (.cells (ir (sx4 s.1 f) 16) 147 (0, 0)) := by rw [← ly_all]; exact HR.out.b0
      have h1 := HR.out.b1
      have HX := Lib.hid (Gs.setRow (HR.out.tail) (ir (sx4 s.1 f) 16))
      have HR0 := Lib.hid h0
      have HR1 := Lib.hid h1
      have hone := ir_one (sx4 s.1 f) 16
      have hinf := info_16 (sx4 s.1 f)
      have hsz : (ir (fun _ => 0) 16).size = (ir (sx4 s.1 f) 16).size := by rw [ir_size, ir_size]
      have HA := Lib.hid (And.intro hone (And.intro hinf hsz))
      generalize hV : ir (sx4 s.1 f) 16 = V at *
      have HV := Lib.hid hV
      generalize ir (fun _ => 0) 16 = Z at *
      clear h0 h1 HR hone hinf hsz hV
      go_wp2_with (first
        | (refine wpList_load_row rfl _ (.tmp 6) rfl (w.heap.size + 1 + 1) rfl _ V (0, 0) _ HR0.out Tryd.underlying147 rfl HA.out.2.1 ?_)
        | (refine wpList_store_row rfl 147 (.tmp 4) (.tmp 54) rfl (w.heap.size + 1) V rfl rfl 147 _ HR1.out HA.out.2.1 HA.out.2.2 HA.out.1 ?_))
      refine post_row_tmp Tryd.results70 (w.heap.size + 1) 147 V (0, 0) _ .nilIface Tryd.underlying147 rfl HA.out.2.1 ?_ ?_ (setRow_heap _ _ _ _ _ _ HR1.out) ?_ ?_
      · rfl
      · rfl
      · rfl
      exact ⟨by rw [HV.out], HX.out.gt⟩
end Go.Proofs.YtgimphkamjojpaaDoor

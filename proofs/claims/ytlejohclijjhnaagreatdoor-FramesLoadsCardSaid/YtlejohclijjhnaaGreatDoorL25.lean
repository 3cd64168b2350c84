/-
  THE WALKS of tile.Middle, Next, Grow. No condition but those that each names.
  THE WALKS of tile.Next and tile.Grow where nothing is wrong. Conditions: the rule may be; no more than four generations.
  A GROWER IN MEMORY and its store's small calls: Level, Tile, Kids. Conditions: the grower lies in memory.
-/
import Derived.Test.YtlejohclijjhnaaGreatDoorL24
import Derived.Test.YtlejohclijjhnaaGreatDoorL17
import Derived.Test.YtlejohclijjhnaaGreatDoorL18
namespace Go.Proofs.YtlejohclijjhnaaGreatDoor
open Go.RowKit Ti Ru

/-- four tiles, nine tiles, by their numbers -/
def q4 (a b c d : T6) : Nat → T6
  | 0 => a
  | 1 => b
  | 2 => c
  | _ => d
def q9 (a b c d e f g h i : T6) : Nat → T6
  | 0 => a
  | 1 => b
  | 2 => c
  | 3 => d
  | 4 => e
  | 5 => f
  | 6 => g
  | 7 => h
  | _ => i
/-- the tile that a plane has there -/
def cutB (p : Pl) (x y : Int) : T6 := mkT (fun i => p (x + (i % 8 : Nat)) (y + (i / 8 : Nat)))
theorem cuts_eq {p : Pl} {x y : Int} {t : T6} (h : Cuts p x y t) : t = cutB p x y := eq_mkT h
theorem cutB_cuts (p : Pl) (x y : Int) : Cuts p x y (cutB p x y) := fun i hi => mkT_bit _ i hi
def growB (b l n : Nat) (t : Nat → T6) : T6 := cutB (gens b l (tp 2 t) n) 4 4
def nextB (b l : Nat) (t : Nat → T6) : T6 := cutB (gen b l (tp 3 t)) 8 8
abbrev box4 (a b c d : T6) : Obj := .cells #[.int .u64 (rg a), .int .u64 (rg b), .int .u64 (rg c), .int .u64 (rg d)] 167
theorem box4_cells {w : World} {g : Nat} {a b c d : T6} (h : w.heap[g]? = some (box4 a b c d)) : ∀ i, i < 4 → w.cell? ⟨g, i, none⟩ = some (.int .u64 (rg (q4 a b c d i))) := by
  intro i hi
  rw [cell_of_row _ _ i _ _ _ h]
  rcases (show i = 0 ∨ i = 1 ∨ i = 2 ∨ i = 3 by omega) with rfl | rfl | rfl | rfl <;> rfl
theorem cut_16 (b l n g : Nat) (F : Nat → R3) (t : Nat → T6) (hn : n ≤ 4) (hl : LayAt t 2 4 0 F) (w : World) (h : FieldAt w g 16 (stsM b l 16 F n)) :
    Calls Tryz.prog 84 #[.slice (some ⟨g, 0, none⟩) 16 16, .int .i64 4, .int .i64 4] w fun e w' => e = .returned (.int .u64 (rg (growB b l n t))) ∧ w = w' :=
  (cut_any g 16 4 4 _ (by omega) (by omega) (by omega) w h).mono fun e w' ⟨⟨A, he, hc⟩, hw⟩ => ⟨by rw [he, cuts_eq (grown_cuts b l n hn hl hc)]; rfl, hw⟩
theorem cut_24 (b l g : Nat) (F : Nat → R3) (t : Nat → T6) (hl : LayAt t 3 9 0 F) (w : World) (h : FieldAt w g 24 (stM b l 24 F)) :
    Calls Tryz.prog 84 #[.slice (some ⟨g, 0, none⟩) 24 24, .int .i64 8, .int .i64 8] w fun e w' => e = .returned (.int .u64 (rg (nextB b l t))) ∧ w = w' :=
  (cut_any g 24 8 8 _ (by omega) (by omega) (by omega) w h).mono fun e w' ⟨⟨A, he, hc⟩, hw⟩ => ⟨by rw [he, cuts_eq (next_cuts b l hl hc)]; rfl, hw⟩
set_option maxRecDepth 100000 in
theorem middle_any (a b c d : T6) (w : World) :
    Calls Tryz.prog 76 #[.agg #[.int .u64 (rg a), .int .u64 (rg b), .int .u64 (rg c), .int .u64 (rg d)]] w fun e w' => e = .returned (.int .u64 (rg (growB 0 0 0 (q4 a b c d)))) ∧ Below w.heap.size w w' := by
  have HB := Lib.hid (alX w (box4 a b c d))
  have HC := Lib.hid (box4_cells (heap_alloc_new w (box4 a b c d)))
  have HL := Lib.hid (fun w1 (_h : Below w.heap.size w w1) (hc : ∀ i, i < 4 → w1.cell? ⟨w.heap.size, i, none⟩ = some (.int .u64 (rg (q4 a b c d i)))) (hs : w.heap.size < w1.heap.size) => lay_2 w.heap.size 4 (q4 a b c d) w1 hs hc)
  have HQ := Lib.hid (fun g F (hl : LayAt (q4 a b c d) 2 4 0 F) w (h : FieldAt w g 16 F) => cut_16 0 0 0 g F (q4 a b c d) (by omega) hl w h)
  go_enter Tryz.func76, Tryz.ntmps76
  go_wp2_with (first | (go_at_call 83; refine (HL.out _ HB.out HC.out (by simp)).mono ?_; rintro e w1 ⟨g, F, rfl, hf, hl, hb, hg⟩; have HF := Lib.hid hf; have HLy := Lib.hid hl; have HB1 := Lib.hid (HB.out.trans (hb.mono (by simp))); clear hf hl hb hg) | (go_at_call 84; refine (HQ.out _ _ HLy.out _ HF.out).mono ?_; rintro e w2 ⟨rfl, rfl⟩))
  go_ret
  exact ⟨rfl, HB1.out⟩
/-- a box and what else was made -/
theorem two_boxes (w : World) (o1 o2 : Obj) : ((w.alloc o1).alloc o2).heap[w.heap.size]? = some o1 ∧ ((w.alloc o1).alloc o2).heap[w.heap.size + 1]? = some o2 ∧ Below w.heap.size w ((w.alloc o1).alloc o2) ∧ ((w.alloc o1).alloc o2).heap.size = w.heap.size + 2 := by
  have h1 := heap_alloc_new w o1
  have z1 : (w.alloc o1).heap.size = w.heap.size + 1 := by simp
  have b1 := alX w o1
  generalize w.alloc o1 = w1 at *
  have h2 := heap_alloc_new w1 o2
  have b2 := alX w1 o2
  refine ⟨(b2.block _ (by omega)).trans h1, by rw [← z1]; exact h2, b1.trans (b2.mono (by omega)), by simp; omega⟩
/-- the fates are laid in a block of their own -/
theorem fat_row {w w1 : World} (h : Below w.heap.size w w1) (old : Array Value) (F : Nat → R3) :
    ((w1.alloc (.cells old 182)).setRow w1.heap.size (frow F 18)).heap[w1.heap.size]? = some (.cells (frow F 18) 182) ∧ Below w.heap.size w ((w1.alloc (.cells old 182)).setRow w1.heap.size (frow F 18)) ∧ Below w1.heap.size w1 ((w1.alloc (.cells old 182)).setRow w1.heap.size (frow F 18)) :=
  ⟨setRow_heap _ _ _ _ _ _ (heap_alloc_new w1 (.cells old 182)), below_setRow (h.alloc h.size _) _ h.size _, below_setRow (alX w1 _) _ (Nat.le_refl _) _⟩
set_option maxRecDepth 100000 in
theorem grow_bad (r l : Nat) (hr : r < 65536) (hl : l < 65536) (h : mayR r l = false) (a b c d : T6) (n : Int) (w : World) :
    Calls Tryz.prog 77 #[Rv r l, .agg #[.int .u64 (rg a), .int .u64 (rg b), .int .u64 (rg c), .int .u64 (rg d)], .int .i64 n] w fun x w' => x = .returned (.tuple #[.int .u64 0, .iface 63 (.int .i64 11)]) ∧ Below w.heap.size w w' := by
  have HF := Lib.hid (fun w => fates_bad r l hr hl h w)
  have HT := Lib.hid (two_boxes w (.cells #[.int .u16 r, .int .u16 l] 44) (box4 a b c d))
  unfold Rv at HF ⊢
  clear hr hl h
  go_enter Tryz.func77, Tryz.ntmps77
  go_wp2_with (first | (go_at_call 85; refine (HF.out _).mono ?_; rintro x w1 ⟨rfl, hb⟩; have HB1 := Lib.hid (HT.out.2.2.1.trans (hb.mono HT.out.2.2.1.size)); have HW1 := Lib.hid hb; clear hb) | (refine wpList_store_row rfl 182 (.tmp 8) (.tmp 14) rfl w1.heap.size (frow (fun _ => 0#32) 18) rfl rfl 182 _ (heap_alloc_new _ _) (info_f _) rfl (frow_one _ _) ?_))
  go_ret2
  exact ⟨rfl, (fat_row HB1.out _ _).2.1⟩
set_option maxRecDepth 100000 in
theorem grow_arg (r l : Nat) (h : mayR r l = true) (a b c d : T6) (n : Int) (hn : n < 0 ∨ 4 < n) (w : World) :
    Calls Tryz.prog 77 #[Rv r l, .agg #[.int .u64 (rg a), .int .u64 (rg b), .int .u64 (rg c), .int .u64 (rg d)], .int .i64 n] w fun x w' => x = .returned (.tuple #[.int .u64 0, .iface 63 (.int .i64 1)]) ∧ Below w.heap.size w w' := by
  have HF := Lib.hid (fun w => fates_ok r l h w)
  have HT := Lib.hid (two_boxes w (.cells #[.int .u16 r, .int .u16 l] 44) (box4 a b c d))
  unfold Rv at HF ⊢
  clear h
  generalize fatF r l = FF at HF
  rcases (show n < 0 ∨ (¬ n < 0 ∧ 4 < n) by omega) with h1 | ⟨h1, h2⟩
  all_goals
    clear hn
    go_enter Tryz.func77, Tryz.ntmps77
    go_wp2_with (first | (go_at_call 85; refine (HF.out _).mono ?_; rintro x w1 ⟨rfl, hb⟩; have HB1 := Lib.hid (HT.out.2.2.1.trans (hb.mono HT.out.2.2.1.size)); have HW1 := Lib.hid hb; clear hb) | (refine wpList_store_row rfl 182 (.tmp 8) (.tmp 14) rfl w1.heap.size (frow (FF) 18) rfl rfl 182 _ (heap_alloc_new _ _) (info_f _) rfl (frow_one _ _) ?_))
    go_ret2
    exact ⟨rfl, (fat_row HB1.out _ _).2.1⟩
end Go.Proofs.YtlejohclijjhnaaGreatDoor
namespace Go.Proofs.YtlejohclijjhnaaGreatDoor
open Go.RowKit Ti Ru

theorem fat_keep (r l : Nat) : ∀ w w' f, FatAt w f r l → Below w.heap.size w w' → FatAt w' f r l := fun _ _ _ h hb => (hb.block _ (lt_of_block h)).trans h
/-- the fates are stored whole into a block that is new -/
theorem wpList_store_fat {ops : Array Oper} {rest : List Oper} {o : Oper} {a : Act} {w1 : World} {Q : Exit → Act → World → Prop} (hgd : o.guard = none) (x y : Operand) (ho : o.op = .store 182 x y) (FF : Nat → R3) (old : Array Value)
    (hx : a.eval x = .pointer (some ⟨w1.heap.size, 0, none⟩)) (hy : a.eval y = .agg (frow FF 18)) (hold : old.size = 18)
    (h : ∀ w2, w2.heap[w1.heap.size]? = some (.cells (frow FF 18) 182) → Below w1.heap.size w1 w2 → wpList Tryz.prog ops Q rest (a.put o.dst undef) w2) : wpList Tryz.prog ops Q (o :: rest) a (w1.alloc (.cells old 182)) :=
  wpList_store_row hgd _ x y ho w1.heap.size (frow FF 18) hx hy _ old (heap_alloc_new _ _) (info_f _) (by rw [hold, frow_size]) (frow_one _ _) (h _ (setRow_heap _ _ _ _ _ _ (heap_alloc_new w1 (.cells old 182))) (below_setRow (alX w1 _) _ (Nat.le_refl _) _))
set_option maxRecDepth 100000 in
theorem grow_fine (r l : Nat) (h : mayR r l = true) (a b c d : T6) (n : Nat) (hn : n ≤ 4) (w : World) :
    Calls Tryz.prog 77 #[Rv r l, .agg #[.int .u64 (rg a), .int .u64 (rg b), .int .u64 (rg c), .int .u64 (rg d)], .int .i64 (n : Int)] w fun x w' => x = .returned (.tuple #[.int .u64 (rg (growB r l n (q4 a b c d))), .nilIface]) ∧ Below w.heap.size w w' := by
  have HF := Lib.hid (fun w => fates_ok r l h w)
  have HT := Lib.hid (two_boxes w (.cells #[.int .u16 r, .int .u16 l] 44) (box4 a b c d))
  have HS := Lib.hid (fun (fb gb : Nat) (F : Nat → R3) w => step_any fb gb r l 16 16 F (by omega) w)
  have HQ := Lib.hid (fun gb F hl w h => cut_16 r l n gb F (q4 a b c d) hn hl w h)
  have n0 : (0 : Int) ≤ (n : Int) := by omega
  have n1 : ¬ (4 : Int) < (n : Int) := by omega
  have HN := Lib.hid hn
  clear hn
  have HFK := Lib.hid (fat_keep r l)
  unfold Rv at HF ⊢
  clear h
  have HFT := Lib.hid (show ∀ w f, w.heap[f]? = some (.cells (frow (fatF r l) 18) 182) → FatAt w f r l from fun _ _ h => h)
  generalize fatF r l = FF at HF HFT
  go_enter Tryz.func77, Tryz.ntmps77
  go_wp2_with (first
    | (go_at_call 85; refine (HF.out _).mono ?_; rintro x w1 ⟨rfl, hb⟩; have HB1 := Lib.hid (HT.out.2.2.1.trans (hb.mono HT.out.2.2.1.size)); have HX1 := Lib.hid ((hb.block _ (lt_of_block HT.out.2.1)).trans HT.out.2.1); clear hb)
    | (refine wpList_store_fat rfl (.tmp 8) (.tmp 14) rfl FF _ rfl rfl rfl ?_; intro w2 hr hb2; have HR := Lib.hid (HFT.out _ _ hr); have HX2 := Lib.hid ((hb2.block _ (lt_of_block HX1.out)).trans HX1.out); have HB2 := Lib.hid (HB1.out.trans (hb2.mono HB1.out.size)); clear hr hb2)
    | (go_at_call 83; refine (lay_2 (w.heap.size + 1) 4 (q4 a b c d) w2 (lt_of_block HX2.out) (box4_cells HX2.out)).mono ?_; rintro x w3 ⟨gb, F, rfl, hf, hl, hb, hg⟩; have HF3 := Lib.hid hf; have HL3 := Lib.hid hl; have HFat := Lib.hid (HFK.out _ _ _ HR.out hb); have HB3 := Lib.hid (HB2.out.trans (hb.mono HB2.out.size)); clear hf hl hb hg))
  go_loopw [10, 29] (fun f i ws => ∃ (k : Nat) (g : Nat), k ≤ n ∧ i = .int .i64 (k : Int) ∧ f = .slice (some ⟨g, 0, none⟩) 16 16 ∧ Hid (FieldAt ws g 16 (stsM r l 16 F k)) ∧ Hid (FatAt ws w1.heap.size r l) ∧ Hid (Below w.heap.size w ws)) (fun _ i _ => n - (intOf i).toNat)
  case atStart => exact ⟨0, gb, Nat.zero_le _, rfl, rfl, HF3, HFat, HB3⟩
  case round =>
    obtain ⟨k, g, hk, rfl, rfl, HFk, HFatk, HBk⟩ := hrel
    have k0 : (0 : Int) ≤ (k : Int) := by omega
    by_cases hlt : k < n
    · have k1 : (k : Int) < (n : Int) := by omega
      go_wp2_with (go_at_call 86; refine (HS.out _ _ _ _ HFatk.out HFk.out).mono ?_; rintro x w4 ⟨g4, rfl, hf, hb, hg⟩; have HF4 := Lib.hid hf; have HFat4 := Lib.hid (HFK.out _ _ _ HFatk.out hb); have HB4 := Lib.hid (HBk.out.trans (hb.mono HBk.out.size)); clear hf hb hg)
      go_roundw
      case rel => exact ⟨k + 1, g4, hlt, by go_num, rfl, HF4, HFat4, HB4⟩
      case measure => simp [intOf]; omega
    · obtain rfl : k = n := by omega
      go_wp2_with (go_at_call 84; refine (HQ.out _ _ HL3.out _ HFk.out).mono ?_; rintro x w5 ⟨rfl, rfl⟩)
      go_ret2
      exact ⟨rfl, HBk.out⟩
end Go.Proofs.YtlejohclijjhnaaGreatDoor
namespace Go.Proofs.YtlejohclijjhnaaGreatDoor
open Go.RowKit Ti Qd Go.Maps Go.WideMaps

set_option maxRecDepth 100000 in
theorem level_is {B : Nat} {w : World} {P : Nat} {L : List Sq} {room : Nat} {H : Nat → Prop} (h : St B w P L room H) (id : Int) (ho : Ok L id) (lv : Int) (hv : (at' L id).lev = lv) :
    Calls Tryz.prog 21 #[.pointer (some ⟨P, 0, none⟩), .int .i64 id] w fun e w' => e = .returned (.tuple #[.int .i64 lv, .nilIface]) ∧ Below w.heap.size w w' := by
  subst hv
  have HQ := Lib.hid (square_ok h id ho)
  clear h
  unfold qv at *
  generalize at' L id = q at *
  go_enter Tryz.func21, Tryz.ntmps21
  go_wp2_with fail
  refine HQ.out.mono ?_
  rintro e w1 ⟨rfl, hb⟩
  have HB := Lib.hid (hb.trans ((alX w1 (bq q)).mono hb.size))
  clear hb
  unfold bq at *
  go_wp2
  go_ret2
  exact ⟨rfl, HB.out⟩
set_option maxRecDepth 100000 in
theorem level_none {B : Nat} {w : World} {P : Nat} {L : List Sq} {room : Nat} {H : Nat → Prop} (h : St B w P L room H) (id : Int) (ho : ¬ Ok L id) :
    Calls Tryz.prog 21 #[.pointer (some ⟨P, 0, none⟩), .int .i64 id] w fun e w' => e = .returned (.tuple #[.int .i64 0, .iface 63 (.int .i64 8)]) ∧ Below w.heap.size w w' := by
  have HQ := Lib.hid (square_none h id ho)
  clear h
  unfold zv at *
  go_enter Tryz.func21, Tryz.ntmps21
  go_wp2_with fail
  refine HQ.out.mono ?_
  rintro e w1 ⟨rfl, hb⟩
  have HB := Lib.hid (hb.trans ((alX w1 zq).mono hb.size))
  clear hb
  go_wp2
  go_ret2
  exact ⟨rfl, HB.out⟩
set_option maxRecDepth 100000 in
theorem tile_ok {B : Nat} {w : World} {P : Nat} {L : List Sq} {room : Nat} {H : Nat → Prop} (h : St B w P L room H) (id : Int) (hl : Lv L 0 id) (t : T6) (ht : (at' L id).til = t) :
    Calls Tryz.prog 75 #[.pointer (some ⟨P, 0, none⟩), .int .i64 id] w fun e w' => e = .returned (.tuple #[.int .u64 (rg t), .nilIface]) ∧ Below w.heap.size w w' := by
  subst ht
  have HQ := Lib.hid (square_ok h id hl.1)
  have e3 : ((at' L id).lev == 3) = true := by rw [beq_iff_eq, hl.2]; rfl
  have e4 : ((at' L id).lev != 3) = false := by rw [bne_eq_false_iff_eq, hl.2]; rfl
  clear h hl
  unfold qv at *
  generalize at' L id = q at *
  go_enter Tryz.func75, Tryz.ntmps75
  go_wp2_with fail
  refine HQ.out.mono ?_
  rintro e w1 ⟨rfl, hb⟩
  have HB := Lib.hid (hb.trans ((alX w1 (bq q)).mono hb.size))
  clear hb
  unfold bq at *
  go_wp2
  go_ret2
  exact ⟨rfl, HB.out⟩
/-- a grower: the store P, the map M -/
structure Gro (B : Nat) (w : World) (G P M b l : Nat) (s : GS) (room : Nat) (Hs : Nat → Prop) : Prop where
  st : St B w P s.1 room Hs
  c0 : w.cell? ⟨G, 0, none⟩ = some (.pointer (some ⟨P, 0, none⟩))
  c1 : w.cell? ⟨G, 1, none⟩ = some (.int .u16 b)
  c2 : w.cell? ⟨G, 2, none⟩ = some (.int .u16 l)
  c3 : w.cell? ⟨G, 3, none⟩ = some (.map (some M))
  kn : KAt w M s.2
  bG : B ≤ G
  bM : B ≤ M
  nG : ¬ Hs G
  nM : ¬ Hs M
  GM : ¬ G = M
def Gr (B : Nat) (w : World) (G P M b l : Nat) (s : GS) (room : Nat) (H : Nat → Prop) : Prop := ∃ Hs, Gro B w G P M b l s room Hs ∧ H = fun x => x = M ∨ Hs x
def Gt (B : Nat) (w : World) (G P M b l room : Nat) (H : Nat → Prop) (s : GS) (w' : World) : Prop := ∃ H', Gr B w' G P M b l s room H' ∧ Stp w H w' H'
theorem Gro.moved {B : Nat} {w w' : World} {G P M b l : Nat} {s : GS} {room : Nat} {Hs : Nat → Prop} (h : Gro B w G P M b l s room Hs) (hG : w'.heap[G]? = w.heap[G]?) (hM : w'.heap[M]? = w.heap[M]?) (hb : ∀ x, Hs x → w'.heap[x]? = w.heap[x]?) : Gro B w' G P M b l s room Hs :=
  ⟨h.st.moved hb, (World.cell?_of_block hG).trans h.c0, (World.cell?_of_block hG).trans h.c1, (World.cell?_of_block hG).trans h.c2, (World.cell?_of_block hG).trans h.c3, h.kn.moved hM, h.bG, h.bM, h.nG, h.nM, h.GM⟩
theorem Gro.ltG {B : Nat} {w : World} {G P M b l : Nat} {s : GS} {room : Nat} {Hs : Nat → Prop} (h : Gro B w G P M b l s room Hs) : G < w.heap.size := World.block_lt_of_cell? w _ h.c0
theorem Gr.lt {B : Nat} {w : World} {G P M b l : Nat} {s : GS} {room : Nat} {H : Nat → Prop} (h : Gr B w G P M b l s room H) : ∀ x, H x → B ≤ x ∧ x < w.heap.size := by
  obtain ⟨Hs, hs, rfl⟩ := h
  rintro x (rfl | hx)
  · exact ⟨hs.bM, hs.kn.lt⟩
  · exact hs.st.lt x hx
theorem Gr.below {B n : Nat} {w w' : World} {G P M b l : Nat} {s : GS} {room : Nat} {H : Nat → Prop} (h : Gr B w G P M b l s room H) (hb : Below n w w') (hn : w.heap.size ≤ n) : Gr B w' G P M b l s room H := by
  obtain ⟨Hs, hs, rfl⟩ := h
  have := hs.ltG
  have := hs.kn.lt
  exact ⟨Hs, hs.moved (hb.block _ (by omega)) (hb.block _ (by omega)) (fun x hx => hb.block _ (by have := (hs.st.lt x hx).2; omega)), rfl⟩
theorem Gr.set {B : Nat} {w : World} {G P M b l : Nat} {s : GS} {room : Nat} {H : Nat → Prop} (h : Gr B w G P M b l s room H) {g i : Nat} (hg : ¬ H g) (hG : ¬ g = G) (v : Value) : Gr B (w.setCell ⟨g, i, none⟩ v) G P M b l s room H := by
  obtain ⟨Hs, hs, rfl⟩ := h
  have ne : ∀ x, ¬ g = x → (w.setCell ⟨g, i, none⟩ v).heap[x]? = w.heap[x]? := fun x hx => Go.RowKit.Below.heap_setCell _ _ _ _ (fun e => hx e.symm)
  exact ⟨Hs, hs.moved (ne _ hG) (ne _ fun e => hg (.inl e)) (fun x hx => ne _ fun e => hg (.inr (e ▸ hx))), rfl⟩
theorem Gr.store {B : Nat} {w : World} {G P M b l : Nat} {s : GS} {room : Nat} {H : Nat → Prop} (h : Gr B w G P M b l s room H) : ∃ Hs, St B w P s.1 room Hs ∧ ∀ {L' : List Sq} {w' : World}, Goes B w P room Hs L' w' → Gt B w G P M b l room H (L', s.2) w' := by
  obtain ⟨Hs, hs, rfl⟩ := h
  refine ⟨Hs, hs.st, ?_⟩
  rintro L' w' ⟨Hs', h1, h2⟩
  have g1 := h2.block G hs.ltG hs.nG
  have g2 := h2.block M hs.kn.lt hs.nM
  refine ⟨_, ⟨Hs', ⟨h1, (World.cell?_of_block g1).trans hs.c0, (World.cell?_of_block g1).trans hs.c1, (World.cell?_of_block g1).trans hs.c2, (World.cell?_of_block g1).trans hs.c3, hs.kn.moved g2, hs.bG, hs.bM, fun e => ?_, fun e => ?_, hs.GM⟩, rfl⟩, ?_⟩
  · rcases h2.own G e with q | q
    · exact hs.nG q
    · have := hs.ltG; omega
  · rcases h2.own M e with q | q
    · exact hs.nM q
    · have := hs.kn.lt; omega
  · refine ⟨h2.os, h2.tape, h2.output, h2.size, fun k hk hn => h2.block k hk fun e => hn (.inr e), fun k hk => ?_⟩
    rcases hk with rfl | hk
    · exact .inl (.inl rfl)
    · rcases h2.own k hk with q | q
      · exact .inl (.inr q)
      · exact .inr q
/-- what was made since a world, beside the grower -/
structure Gs (B : Nat) (w0 : World) (H0 : Nat → Prop) (G P M b l room : Nat) (s : GS) (bx : List (Nat × Obj)) (w : World) : Prop where
  ex : ∃ H, Gr B w G P M b l s room H ∧ Stp w0 H0 w H ∧ ∀ x ∈ bx, w0.heap.size ≤ x.1 ∧ ¬ H x.1 ∧ w.heap[x.1]? = some x.2
  nd : (bx.map Prod.fst).Nodup
  lo : G < w0.heap.size
theorem Gs.start {B : Nat} {w : World} {G P M b l : Nat} {s : GS} {room : Nat} {H : Nat → Prop} (h : Gr B w G P M b l s room H) : Gs B w H G P M b l room s [] w :=
  ⟨⟨H, h, Stp.refl _ _, fun x hx => by cases hx⟩, List.nodup_nil, by obtain ⟨Hs, hs, _⟩ := h; exact hs.ltG⟩
theorem Gs.below {B : Nat} {w0 w w' : World} {H0 : Nat → Prop} {G P M b l room : Nat} {s : GS} {bx : List (Nat × Obj)} (h : Gs B w0 H0 G P M b l room s bx w) (hb : Below w.heap.size w w') : Gs B w0 H0 G P M b l room s bx w' := by
  obtain ⟨⟨H, h1, h2, h3⟩, h4, h5⟩ := h
  exact ⟨⟨H, h1.below hb (Nat.le_refl _), h2.trans (.of_below hb), fun x hx => ⟨(h3 x hx).1, (h3 x hx).2.1, (hb.block _ (lt_of_block (h3 x hx).2.2)).trans (h3 x hx).2.2⟩⟩, h4, h5⟩
theorem Gs.alloc {B : Nat} {w0 w : World} {H0 : Nat → Prop} {G P M b l room : Nat} {s : GS} {bx : List (Nat × Obj)} (h : Gs B w0 H0 G P M b l room s bx w) (o : Obj) : Gs B w0 H0 G P M b l room s ((w.heap.size, o) :: bx) (w.alloc o) := by
  have h' := h.below (alX w o)
  obtain ⟨⟨H, h1, h2, h3⟩, h4, h5⟩ := h
  obtain ⟨⟨_, _, _, _⟩, _, _⟩ := h'
  refine ⟨⟨H, h1.below (alX w o) (Nat.le_refl _), h2.trans (.of_below (alX w o)), fun x hx => ?_⟩, List.nodup_cons.2 ⟨fun hm => ?_, h4⟩, h5⟩
  · rcases List.mem_cons.1 hx with rfl | hx
    · exact ⟨h2.size, fun e => by have := (h1.lt _ e).2; exact Nat.lt_irrefl _ this, heap_alloc_new w o⟩
    · exact ⟨(h3 x hx).1, (h3 x hx).2.1, ((alX w o).block _ (lt_of_block (h3 x hx).2.2)).trans (h3 x hx).2.2⟩
  · obtain ⟨y, hy, e⟩ := List.mem_map.1 hm
    have := lt_of_block (h3 y hy).2.2
    omega
theorem Gs.goes {B : Nat} {w0 w w' : World} {H0 H : Nat → Prop} {G P M b l room : Nat} {s s' : GS} {bx : List (Nat × Obj)} (h : Gr B w G P M b l s room H ∧ Stp w0 H0 w H ∧ ∀ x ∈ bx, w0.heap.size ≤ x.1 ∧ ¬ H x.1 ∧ w.heap[x.1]? = some x.2) (hn : (bx.map Prod.fst).Nodup) (hl : G < w0.heap.size) (k : Gt B w G P M b l room H s' w') : Gs B w0 H0 G P M b l room s' bx w' := by
  obtain ⟨h1, h2, h3⟩ := h
  obtain ⟨H', k1, k2⟩ := k
  refine ⟨⟨H', k1, h2.trans k2, fun x hx => ⟨(h3 x hx).1, fun e => ?_, (k2.block _ (lt_of_block (h3 x hx).2.2) (h3 x hx).2.1).trans (h3 x hx).2.2⟩⟩, hn, hl⟩
  rcases k2.own _ e with q | q
  · exact (h3 x hx).2.1 q
  · have := lt_of_block (h3 x hx).2.2
    omega
theorem Gs.box {B : Nat} {w0 w : World} {H0 : Nat → Prop} {G P M b l room : Nat} {s : GS} {bx : List (Nat × Obj)} (h : Gs B w0 H0 G P M b l room s bx w) {g : Nat} {o : Obj} (hm : (g, o) ∈ bx) : w.heap[g]? = some o := by
  obtain ⟨⟨H, h1, h2, h3⟩, _⟩ := h
  exact (h3 _ hm).2.2
theorem Gs.set {B : Nat} {w0 w : World} {H0 : Nat → Prop} {G P M b l room : Nat} {s : GS} {bx : List (Nat × Obj)} {g : Nat} {o o' : Obj} (h : Gs B w0 H0 G P M b l room s ((g, o) :: bx) w) {i : Nat} {v : Value} (e : (w.setCell ⟨g, i, none⟩ v).heap[g]? = some o') : Gs B w0 H0 G P M b l room s ((g, o') :: bx) (w.setCell ⟨g, i, none⟩ v) := by
  obtain ⟨⟨H, h1, h2, h3⟩, h4, h5⟩ := h
  have hg := h3 _ (List.mem_cons_self)
  rw [List.map_cons, List.nodup_cons] at h4
  have ne : ∀ x, ¬ g = x → (w.setCell ⟨g, i, none⟩ v).heap[x]? = w.heap[x]? := fun x hx => Go.RowKit.Below.heap_setCell _ _ _ _ (fun e => hx e.symm)
  refine ⟨⟨H, h1.set hg.2.1 (fun e => by have := hg.1; simp only at this; omega) v, ⟨h2.os, h2.tape, h2.output, by simpa using h2.size, fun k hk hn => (ne k fun e => by have := hg.1; simp only at this; omega).trans (h2.block k hk hn), h2.own⟩, fun x hx => ?_⟩, by rw [List.map_cons, List.nodup_cons]; exact h4, h5⟩
  · rcases List.mem_cons.1 hx with rfl | hx
    · exact ⟨hg.1, hg.2.1, e⟩
    · exact ⟨(h3 x (List.mem_cons_of_mem _ hx)).1, (h3 x (List.mem_cons_of_mem _ hx)).2.1, (ne _ fun q => h4.1 (List.mem_map.2 ⟨x, hx, q.symm⟩)).trans (h3 x (List.mem_cons_of_mem _ hx)).2.2⟩
theorem Gs.sub {B : Nat} {w0 w : World} {H0 : Nat → Prop} {G P M b l room : Nat} {s : GS} {bx by' : List (Nat × Obj)} (h : Gs B w0 H0 G P M b l room s bx w) (hs : ∀ x ∈ by', x ∈ bx) (hn : (by'.map Prod.fst).Nodup) : Gs B w0 H0 G P M b l room s by' w := by
  obtain ⟨⟨H, h1, h2, h3⟩, h4, h5⟩ := h
  exact ⟨⟨H, h1, h2, fun x hx => h3 x (hs x hx)⟩, hn, h5⟩
theorem Gs.gt {B : Nat} {w0 w : World} {H0 : Nat → Prop} {G P M b l room : Nat} {s : GS} {bx : List (Nat × Obj)} (h : Gs B w0 H0 G P M b l room s bx w) : Gt B w0 G P M b l room H0 s w := by
  obtain ⟨⟨H, h1, h2, _⟩, _⟩ := h
  exact ⟨H, h1, h2⟩
end Go.Proofs.YtlejohclijjhnaaGreatDoor

/-
  WALKS of sync.Once's calls: what is to be done once is done, and not again. Conditions: one goroutine: the lock is free.
  WALK of middle: what finds middles is made once. Conditions: the machine lies in memory, the square is of level 4 or above, there is room.
  WALK of middle, whole: the middle of a square as it is. Conditions: the machine lies in memory, the square is of level 4 or above, there is room.
-/
import Derived.Tactics
import Derived.Tactics2
import Derived.Defers
import Derived.Laws.Pointers
import Derived.Laws.LoneSync
import Derived.RegionTactic
import Derived.RegionCalls
import Derived.ChangeAlike
import Derived.Test.YtlejohclijjhnaaGreatDoorL32
namespace Go.Proofs.YtlejohclijjhnaaGreatDoor.Fm
open Go.RowKit Ti Qd Go.Maps Go.WideMaps Ru

theorem disable (w : World) : (callFunc 95 #[]).run Tryz.prog w = .ok (.value (.tuple #[])) w := run_call_mark0 Tryz.func95 (by kernel_rfl) (by kernel_rfl) (by kernel_rfl) .disable (by kernel_rfl) w
theorem enable (w : World) : (callFunc 97 #[]).run Tryz.prog w = .ok (.value (.tuple #[])) w := run_call_mark0 Tryz.func97 (by kernel_rfl) (by kernel_rfl) (by kernel_rfl) .enable (by kernel_rfl) w
theorem acquire (a : Addr) (w : World) : (callFunc 98 #[.pointer (some a)]).run Tryz.prog w = .ok (.value (.tuple #[])) w := run_call_marked Tryz.func98 (by kernel_rfl) (by kernel_rfl) (by kernel_rfl) .acquire (by kernel_rfl) a w
theorem releaseMerge (a : Addr) (w : World) : (callFunc 100 #[.pointer (some a)]).run Tryz.prog w = .ok (.value (.tuple #[])) w := run_call_marked Tryz.func100 (by kernel_rfl) (by kernel_rfl) (by kernel_rfl) .releaseMerge (by kernel_rfl) a w
set_option maxRecDepth 100000 in
theorem store_deferred (a : Addr) (x : Value) (u : FrameMode) (w : World) (hc : w.cell? a = some x) (hz : w.frozen? a = false) :
    CallsD Tryz.prog 81 #[.pointer (some a), .bool true] u w fun e u' w' => u' = u ∧ (e = .returned (.tuple #[]) ∧ w' = w.drew.setCell a (.int .u32 1)) := by
  have hc' : w.drew.cell? a = some x := by go_simp
  have hz' : w.drew.frozen? a = false := by go_simp
  have hst := run_call_store (P := Tryz.prog) Tryz.func89 (by kernel_rfl) (by kernel_rfl) (by kernel_rfl) (by kernel_rfl) (k := .u32) (y := 1) hc' hz'
  go_enter_d Tryz.func81, Tryz.ntmps81
  go_wp2
  go_region_calls
  all_goals (go_end0; exact ⟨rfl, rfl⟩)
set_option maxRecDepth 100000 in
theorem unlock_deferred (a : Addr) (u : FrameMode) (w : World) (hc : w.cell? a = some (.int .i32 1)) (hz : w.frozen? a = false) :
    CallsD Tryz.prog 80 #[.pointer (some a)] u w fun e u' w' => u' = u ∧ (e = .returned (.tuple #[]) ∧ w' = w.setCell a (.int .i32 0)) := by
  have hd := disable
  have he := enable
  have hr := releaseMerge
  have hadd := run_call_add (P := Tryz.prog) Tryz.func101 (by kernel_rfl) (by kernel_rfl) (by kernel_rfl) .i32 (by kernel_rfl) (y := -1) (s := 0) hc hz (by simp [go_sem]; rfl)
  have hcv := run_convert_to_unsafe (P := Tryz.prog) (src := 196) (dst := 115) Tryz.underlying196 Tryz.underlying115 (by kernel_rfl) hc
  go_enter_d Tryz.func80, Tryz.ntmps80
  go_wp2
  go_end0
  go_wp2
  go_end0
  exact ⟨rfl, rfl⟩
set_option maxRecDepth 100000 in
theorem lock_free (a : Addr) (w : World) (hc : w.cell? a = some (.int .i32 0)) (hz : w.frozen? a = false) :
    Calls Tryz.prog 79 #[.pointer (some a)] w fun e w' => e = .returned (.tuple #[]) ∧ w' = w.setCell a (.int .i32 1) := by
  have hd := disable
  have he := enable
  have ha := acquire
  have hcas := run_call_cas_hit (P := Tryz.prog) Tryz.func96 (by kernel_rfl) (by kernel_rfl) (by kernel_rfl) .i32 (by kernel_rfl) (y := 1) hc hz
  have hc' : (w.setCell a (.int .i32 1)).cell? a = some (.int .i32 1) := World.cell?_setCell_same w a _ hc
  have hcv := run_convert_to_unsafe (P := Tryz.prog) (src := 196) (dst := 115) Tryz.underlying196 Tryz.underlying115 (by kernel_rfl) hc'
  go_enter Tryz.func79, Tryz.ntmps79
  go_wp2
  first | go_end0 | (simp only [Exit.inBlock, Exit.then]; refine bodyPost_ret (results_none rfl _ _ _) rfl ?_) | refine bodyPost_ret (results_none rfl _ _ _) rfl ?_
  go_wp2
  go_end0
  exact ⟨rfl, rfl⟩
set_option maxRecDepth 100000 in
theorem load_b (a : Addr) (x : Int) (r : Bool) (hr : (x != 0) = r) (w : World) (hc : w.cell? a = some (.int .u32 x)) :
    Calls Tryz.prog 71 #[.pointer (some a)] w fun e w' => e = .returned (.bool r) ∧ w' = w := by
  have hl := run_call_load (P := Tryz.prog) Tryz.func78 (by kernel_rfl) (by kernel_rfl) (by kernel_rfl) .u32 (by kernel_rfl) hc
  subst hr
  go_enter Tryz.func71, Tryz.ntmps71
  go_wp2
  go_ret
  exact ⟨rfl, rfl⟩
set_option maxRecDepth 100000 in
set_option maxHeartbeats 2000000 in
theorem slow_f (b off : Nat) (F : FuncId) (cap : Array Value) (w : World) (Q : World → Prop)
    (h0 : w.cell? ⟨b, off, none⟩ = some (.int .u32 0)) (h1 : w.cell? ⟨b, off + 1, none⟩ = some (.int .i32 0))
    (f1 : w.frozen? ⟨b, off + 1, none⟩ = false)
    (hcf : ∀ (args : Array Value) (w : World), (callFunc F args).run Tryz.prog w = .ok (.enter F args) w)
    (hF : Calls Tryz.prog F cap (w.setCell ⟨b, off + 1, none⟩ (.int .i32 1)) fun e w' => e = .returned (.tuple #[]) ∧ Q w')
    (hQ : ∀ w', Q w' → w'.cell? ⟨b, off, none⟩ = some (.int .u32 0) ∧ w'.cell? ⟨b, off + 1, none⟩ = some (.int .i32 1) ∧ w'.frozen? ⟨b, off, none⟩ = false ∧ w'.frozen? ⟨b, off + 1, none⟩ = false) :
    Calls Tryz.prog 72 #[.pointer (some ⟨b, off, none⟩), .func (.func F) #[] cap] w fun e w' => e = .returned (.tuple #[]) ∧ ∃ w2, Q w2 ∧ w' = (w2.drew.setCell ⟨b, off, none⟩ (.int .u32 1)).setCell ⟨b, off + 1, none⟩ (.int .i32 0) := by
  have HL0 := Lib.hid ((World.cell?_setCell_other w ⟨b, off + 1, none⟩ ⟨b, off, none⟩ (.int .i32 1) (by simp)).trans h0)
  have hnot : ∀ (x : Bool) (w : World), (Op.unary .not (.bool x)).run Tryz.prog w = .ok (.bool (!x)) w := fun _ _ => rfl
  have HF := Lib.hid hF
  have HQ := Lib.hid hQ
  clear hF hQ
  go_enter_defers Tryz.func72, Tryz.ntmps72
  go_wp2_with (go_at_call 79; refine (lock_free ⟨b, off + 1, none⟩ _ (by go_simp) (by go_simp)).mono ?_; rintro e w' ⟨rfl, rfl⟩)
  refine (load_b ⟨b, off, none⟩ 0 false rfl _ HL0.out).mono ?_
  rintro e w' ⟨rfl, rfl⟩
  go_wp2_with fail
  refine HF.out.mono ?_
  rintro e w2 ⟨rfl, hq⟩
  have HW2 := Lib.hid hq
  obtain ⟨q0, q1, z0, z1⟩ := HQ.out w2 hq
  clear hq hnot HL0 h0 h1 f1
  go_wp2
  refine leaves_cons (f := 81) (args := #[.pointer (some ⟨b, off, none⟩), .bool true]) (by simp) (by simp [go_sem]) ?_
  refine (store_deferred ⟨b, off, none⟩ (.int .u32 0) .returning _ q0 z0).mono ?_
  rintro e u' w'' ⟨rfl, rfl, rfl⟩
  refine leaves_cons (f := 80) (args := #[.pointer (some ⟨b, off + 1, none⟩)]) (by simp [settle]) (by simp [go_sem]) ?_
  refine (unlock_deferred ⟨b, off + 1, none⟩ _ _ ?_ (by simp [z1])).mono ?_
  · refine (World.cell?_setCell_other _ ⟨b, off, none⟩ ⟨b, off + 1, none⟩ _ (by simp)).trans ?_
    rw [World.cell?_drew]
    exact q1
  rintro e u' w'' ⟨rfl, rfl, rfl⟩
  simp [Leaves, settle, results, Tryz.results72]
  exact ⟨w2, HW2.out, rfl⟩
set_option maxRecDepth 100000 in
set_option maxHeartbeats 2000000 in
theorem do_first (b off : Nat) (F : FuncId) (cap : Array Value) (w : World) (Q : World → Prop)
    (h0 : w.cell? ⟨b, off, none⟩ = some (.int .u32 0)) (h1 : w.cell? ⟨b, off + 1, none⟩ = some (.int .i32 0))
    (f1 : w.frozen? ⟨b, off + 1, none⟩ = false)
    (hcf : ∀ (args : Array Value) (w : World), (callFunc F args).run Tryz.prog w = .ok (.enter F args) w)
    (hF : Calls Tryz.prog F cap (w.setCell ⟨b, off + 1, none⟩ (.int .i32 1)) fun e w' => e = .returned (.tuple #[]) ∧ Q w')
    (hQ : ∀ w', Q w' → w'.cell? ⟨b, off, none⟩ = some (.int .u32 0) ∧ w'.cell? ⟨b, off + 1, none⟩ = some (.int .i32 1) ∧ w'.frozen? ⟨b, off, none⟩ = false ∧ w'.frozen? ⟨b, off + 1, none⟩ = false) :
    Calls Tryz.prog 58 #[.pointer (some ⟨b, off, none⟩), .func (.func F) #[] cap] w fun e w' => e = .returned (.tuple #[]) ∧ ∃ w2, Q w2 ∧ w' = (w2.drew.setCell ⟨b, off, none⟩ (.int .u32 1)).setCell ⟨b, off + 1, none⟩ (.int .i32 0) := by
  have HS := Lib.hid (slow_f b off F cap w Q h0 h1 f1 hcf hF hQ)
  have HL := Lib.hid (load_b ⟨b, off, none⟩ 0 false rfl w h0)
  clear hcf hF hQ h0 h1 f1
  go_enter Tryz.func58, Tryz.ntmps58
  go_wp2_with fail
  refine HL.out.mono ?_
  rintro e w' ⟨rfl, rfl⟩
  go_wp2_with fail
  refine HS.out.mono ?_
  rintro e w' ⟨rfl, hq⟩
  have HQ := Lib.hid hq
  clear hq
  go_wp2
  go_end0
  exact ⟨rfl, HQ.out⟩
set_option maxRecDepth 100000 in
theorem do_done (a : Addr) (fv : Value) (w : World) (h0 : w.cell? a = some (.int .u32 1)) :
    Calls Tryz.prog 58 #[.pointer (some a), fv] w fun e w' => e = .returned (.tuple #[]) ∧ w' = w := by
  have HL := Lib.hid (load_b a 1 true rfl w h0)
  clear h0
  go_enter Tryz.func58, Tryz.ntmps58
  go_wp2_with fail
  refine HL.out.mono ?_
  rintro e w' ⟨rfl, rfl⟩
  go_wp2
  go_end0
  exact ⟨rfl, rfl⟩
end Go.Proofs.YtlejohclijjhnaaGreatDoor.Fm
namespace Go.Proofs.YtlejohclijjhnaaGreatDoor.Fm
open Go.RowKit Ti Qd Go.Maps Go.WideMaps Ru

/-- what finds middles, newly made -/
def NewG (w : World) (P b l : Nat) (e : Ending) (w' : World) : Prop := ∃ x, e = .returned (.tuple #[.pointer (some ⟨x.1, 0, none⟩), .nilIface]) ∧ GrA w' P b l x ∧ w.heap.size ≤ x.1 ∧ w.heap.size ≤ x.2 ∧ ¬ x.1 = x.2 ∧ Below w.heap.size w w'
theorem newg_of {w w1 : World} (P b l : Nat) (hb : Below w.heap.size w w1) :
    NewG w P b l (.returned (.tuple #[.pointer (some ⟨w1.heap.size + 1, 0, none⟩), .nilIface])) ((w1.alloc (.map #[] 0)).alloc (.cells #[.pointer (some ⟨P, 0, none⟩), .int .u16 b, .int .u16 l, .map (some w1.heap.size)] 102)) := by
  have h1 := alX w1 (.map #[] 0)
  have h2 := alX (w1.alloc (.map #[] 0)) (.cells #[.pointer (some ⟨P, 0, none⟩), .int .u16 b, .int .u16 l, .map (some w1.heap.size)] 102)
  have hc : ((w1.alloc (.map #[] 0)).alloc (.cells #[.pointer (some ⟨P, 0, none⟩), .int .u16 b, .int .u16 l, .map (some w1.heap.size)] 102)).heap[w1.heap.size + 1]? = some (.cells #[.pointer (some ⟨P, 0, none⟩), .int .u16 b, .int .u16 l, .map (some w1.heap.size)] 102 (0, 0)) := by
    have := heap_alloc_new (w1.alloc (.map #[] 0)) (.cells #[.pointer (some ⟨P, 0, none⟩), .int .u16 b, .int .u16 l, .map (some w1.heap.size)] 102)
    simpa using this
  have hbb := hb.trans ((h1.trans (h2.mono (by simp))).mono hb.size)
  obtain ⟨c0, c1, c2, c3⟩ := four_cells hc
  have hz := hb.size
  exact ⟨(w1.heap.size + 1, w1.heap.size), rfl, ⟨c0, c1, c2, c3, ⟨.map [], [], ((World.ownsMap_made (H := Unit) w1 Tryz.prog 229 (plainElem Tryz.prog 3)).alloc _), mpA_nil, List.nodup_nil, by simp, by simp [K0]⟩⟩, by simp only; omega, hz, by simp, hbb⟩
set_option maxRecDepth 100000 in
set_option maxHeartbeats 1000000 in
theorem gnew_f (P b l : Nat) (hm : mayR b l = true) (w : World) :
    Calls Tryz.prog 19 #[.pointer (some ⟨P, 0, none⟩), Rv b l] w (NewG w P b l) := by
  have HC := Lib.hid (fun w => check_ok b l hm w)
  have HM := Lib.hid (fun (w1 : World) (hb : Below w.heap.size w w1) => newg_of P b l hb)
  clear hm
  unfold Rv at HC ⊢
  have HB := Lib.hid (alX w (.cells #[.int .u16 b, .int .u16 l] 44))
  obtain ⟨c0, c1⟩ := two_cells (heap_alloc_new w (.cells #[.int .u16 b, .int .u16 l] 44))
  have HR := Lib.hid (heap_alloc_new w (.cells #[.int .u16 b, .int .u16 l] 44))
  have hmm := @run_makeMap Tryz.prog
  go_enter Tryz.func19, Tryz.ntmps19
  go_wp2_with fail
  refine (HC.out _).mono ?_
  rintro e w1 ⟨rfl, hb⟩
  have HB1 := Lib.hid (HB.out.trans (hb.mono HB.out.size))
  obtain ⟨c0, c1⟩ := two_cells ((hb.block _ (lt_of_block HR.out)).trans HR.out)
  clear hb
  go_wp2
  go_ret2
  exact HM.out _ HB1.out
def MadeG (W : World) (P b l G : Nat) (w' : World) : Prop :=
  ∃ w2 x, GrA w2 P b l x ∧ W.heap.size ≤ x.1 ∧ W.heap.size ≤ x.2 ∧ ¬ x.1 = x.2 ∧ Below W.heap.size W w2 ∧ w' = w2.setCell ⟨G, 9, none⟩ (.pointer (some ⟨x.1, 0, none⟩))
set_option maxRecDepth 100000 in
set_option maxHeartbeats 2000000 in
theorem mid1_f {W : World} {P b l G bx : Nat} (hm : mayR b l = true) (cb : W.cell? ⟨bx, 0, none⟩ = some (.pointer (some ⟨G, 0, none⟩)))
    (c0 : W.cell? ⟨G, 0, none⟩ = some (.pointer (some ⟨P, 0, none⟩))) (c1 : W.cell? ⟨G, 1, none⟩ = some (.int .u16 b)) (c2 : W.cell? ⟨G, 2, none⟩ = some (.int .u16 l)) (c9 : W.cell? ⟨G, 9, none⟩ = some (.pointer none)) (f9 : W.frozen? ⟨G, 9, none⟩ = false) (hne : ¬ bx = G) :
    Calls Tryz.prog 59 #[.pointer (some ⟨bx, 0, none⟩)] W fun e w' => e = .returned (.tuple #[]) ∧ MadeG W P b l G w' := by
  have HN := Lib.hid (gnew_f P b l hm W.drew)
  have KD := Lib.hid (show W.drew.cell? ⟨bx, 0, none⟩ = some (.pointer (some ⟨G, 0, none⟩)) ∧ W.drew.cell? ⟨G, 0, none⟩ = some (.pointer (some ⟨P, 0, none⟩)) ∧ W.drew.cell? ⟨G, 1, none⟩ = some (.int .u16 b) ∧ W.drew.cell? ⟨G, 2, none⟩ = some (.int .u16 l) from ⟨cb, c0, c1, c2⟩)
  have KX := Lib.hid (show W.drew.cell? ⟨G, 9, none⟩ = some (.pointer none) ∧ W.drew.frozen? ⟨G, 9, none⟩ = false from ⟨c9, f9⟩)
  have HNE := Lib.hid hne
  clear hm cb c0 c1 c2 c9 f9 hne
  unfold Rv at HN
  go_enter Tryz.func59, Tryz.ntmps59
  go_upto_region 0 with (fail)
  go_region_held3 (fun w' => w'.cell? ⟨bx, 0, none⟩ = some (.pointer (some ⟨G, 0, none⟩)) ∧ w'.cell? ⟨G, 0, none⟩ = some (.pointer (some ⟨P, 0, none⟩)) ∧ w'.cell? ⟨G, 1, none⟩ = some (.int .u16 b) ∧ w'.cell? ⟨G, 2, none⟩ = some (.int .u16 l)) (first | with_reducible exact KD.out | with_reducible exact ks | with_reducible exact kz)
    (first
      | (go_at_call 19; (with_reducible refine HN.out.mono ?_); rintro e w2 ⟨x, rfl, hg, g1, g2, g3, hb⟩; have HG := Lib.hid (And.intro hg (And.intro g1 (And.intro g2 (And.intro g3 hb)))); have ks := And.intro (cell_bel KD.out.1 hb) (And.intro (cell_bel KD.out.2.1 hb) (And.intro (cell_bel KD.out.2.2.1 hb) (cell_bel KD.out.2.2.2 hb))); have d9 : w2.cell? ⟨G, 9, none⟩ = some (.pointer none) := cell_bel KX.out.1 hb; have e9 : w2.frozen? ⟨G, 9, none⟩ = false := (World.frozen?_of_block (a := ⟨G, 9, none⟩) (hb.block G (World.block_lt_of_cell? _ _ KX.out.1))).trans KX.out.2; have kz := And.intro ((World.cell?_setCell_other w2 ⟨G, 9, none⟩ ⟨bx, 0, none⟩ (.pointer (some ⟨x.1, 0, none⟩)) (fun q => HNE.out (by injection q with q; exact q.symm))).trans ks.1) (And.intro ((World.cell?_setCell_other w2 ⟨G, 9, none⟩ ⟨G, 0, none⟩ (.pointer (some ⟨x.1, 0, none⟩)) (by simp)).trans ks.2.1) (And.intro ((World.cell?_setCell_other w2 ⟨G, 9, none⟩ ⟨G, 1, none⟩ (.pointer (some ⟨x.1, 0, none⟩)) (by simp)).trans ks.2.2.1) ((World.cell?_setCell_other w2 ⟨G, 9, none⟩ ⟨G, 2, none⟩ (.pointer (some ⟨x.1, 0, none⟩)) (by simp)).trans ks.2.2.2))); clear hg g1 g2 g3 hb))
  go_end0
  exact ⟨rfl, w2, x, HG.out.1, HG.out.2.1, HG.out.2.2.1, HG.out.2.2.2.1, ⟨HG.out.2.2.2.2.os, HG.out.2.2.2.2.tape, HG.out.2.2.2.2.output, HG.out.2.2.2.2.size, HG.out.2.2.2.2.block⟩, rfl⟩
/-- the machine with its store, what finds middles being there -/
def McS (B P room b l G M : Nat) (x : Nat × Nat) (s : MS) (w : World) (H : Nat → Prop) : Prop :=
  ∃ uv us Hs, St B w P s.L room Hs ∧ Mach B w P b l G M uv us (some x) s.K s.out ∧ us.map Prod.fst = s.U.reverse ∧ (∀ y ∈ ownL G M uv us (some x), ¬ Hs y) ∧ H = fun y => y ∈ ownL G M uv us (some x) ∨ Hs y
theorem McS.mc {B P room b l G M : Nat} {x : Nat × Nat} {s : MS} {w : World} {H : Nat → Prop} (h : McS B P room b l G M x s w H) : Mc B P room b l G M s w H := by
  obtain ⟨uv, us, Hs, h1, h2, h3, h4, h5⟩ := h
  exact ⟨uv, us, some x, Hs, h1, h2, h3, h4, h5⟩
theorem mcs_fpt (B P room b l G M : Nat) (x : Nat × Nat) (s : MS) : Fpt B (McS B P room b l G M x s) where
  lt := fun h => (mc_fpt B P room b l G M s).lt h.mc
  mv := by
    rintro w w' H ⟨uv, us, Hs, h1, h2, h3, h4, rfl⟩ hb
    exact ⟨uv, us, Hs, h1.moved fun x hx => hb x (.inr hx), h2.moved fun x hx => hb x (.inl hx), h3, h4, rfl⟩
/-- behind what is done once -/
abbrev onceW (w2 : World) (G : Nat) (a : Addr) : World := (((w2.setCell ⟨G, 9, none⟩ (.pointer (some a))).drew.setCell ⟨G, 6, none⟩ (.int .u32 1)).setCell ⟨G, 6 + 1, none⟩ (.int .i32 0))
theorem once_mach {B : Nat} {w w2 : World} {P b l G M : Nat} {uv : Value} {us : List FH} {K : Kn} {out : Int} {x : Nat × Nat} (k : Mach B w P b l G M uv us none K out) (hB : B ≤ w.heap.size) (hg : GrA w2 P b l x) (x1 : w.heap.size ≤ x.1) (x2 : w.heap.size ≤ x.2) (x3 : ¬ x.1 = x.2) (hb : Below w.heap.size (w.setCell ⟨G, 6 + 1, none⟩ (.int .i32 1)) w2) :
    Mach B (onceW w2 G ⟨x.1, 0, none⟩) P b l G M uv us (some x) K out ∧ ∀ y, y < w.heap.size → ¬ y = G → (onceW w2 G ⟨x.1, 0, none⟩).heap[y]? = w.heap[y]? := by
  have hG := (k.lt own_G).2
  have ne : ∀ y, ¬ y = G → (onceW w2 G ⟨x.1, 0, none⟩).heap[y]? = w2.heap[y]? := fun y hy =>
    (Go.RowKit.Below.heap_setCell _ ⟨G, 6 + 1, none⟩ _ _ hy).trans ((Go.RowKit.Below.heap_setCell _ ⟨G, 6, none⟩ _ _ hy).trans (show (w2.setCell ⟨G, 9, none⟩ (.pointer (some ⟨x.1, 0, none⟩))).drew.heap[y]? = _ from Go.RowKit.Below.heap_setCell _ ⟨G, 9, none⟩ _ _ hy))
  have eo : ∀ y, y < w.heap.size → ¬ y = G → (onceW w2 G ⟨x.1, 0, none⟩).heap[y]? = w.heap[y]? := fun y hl hy =>
    (ne y hy).trans ((hb.block y hl).trans (Go.RowKit.Below.heap_setCell _ ⟨G, 6 + 1, none⟩ _ _ hy))
  have cw : ∀ i, w2.cell? ⟨G, i, none⟩ = (w.setCell ⟨G, 6 + 1, none⟩ (.int .i32 1)).cell? ⟨G, i, none⟩ := fun i => World.cell?_of_block (hb.block G hG)
  have fw : ∀ i, w2.frozen? ⟨G, i, none⟩ = false := fun i => (World.frozen?_of_block (a := ⟨G, i, none⟩) (hb.block G hG)).trans ((World.frozen?_setCell _ _ _ _).trans (k.fz i))
  have co : ∀ i v, ¬ i = 6 → ¬ i = 7 → ¬ i = 9 → w.cell? ⟨G, i, none⟩ = some v → (onceW w2 G ⟨x.1, 0, none⟩).cell? ⟨G, i, none⟩ = some v := fun i v h6 h7 h9 hv => by
    rw [World.cell?_setCell_other _ _ _ _ (by simp <;> omega), World.cell?_setCell_other _ _ _ _ (by simp <;> omega), World.cell?_drew, World.cell?_setCell_other _ _ _ _ (by simp <;> omega), cw, World.cell?_setCell_other _ _ _ _ (by simp <;> omega)]
    exact hv
  have c6 : w2.cell? ⟨G, 6, none⟩ = some (.int .u32 0) := by
    rw [cw, World.cell?_setCell_other _ _ _ _ (by simp)]
    exact k.c6
  have c7 : w2.cell? ⟨G, 6 + 1, none⟩ = some (.int .i32 1) := by
    rw [cw]
    exact World.cell?_setCell_same _ _ _ k.c7
  have c9 : w2.cell? ⟨G, 9, none⟩ = some (.pointer none) := by
    rw [cw, World.cell?_setCell_other _ _ _ _ (by simp)]
    exact k.c9
  have nx1 : ¬ x.1 = G := by omega
  have nx2 : ¬ x.2 = G := by omega
  have hnd := k.nd
  have lt := fun {y} (hy : y ∈ ownL G M uv us none) => (k.lt hy).2
  have mo : ∀ y ∈ ownL G M uv us none, ¬ y = G → (onceW w2 G ⟨x.1, 0, none⟩).heap[y]? = w.heap[y]? := fun y hy hn => eo y (lt hy) hn
  have nG : ∀ y ∈ M :: (ownV uv ++ ownU us), ¬ y = G := fun y hy e => by
    unfold ownL at hnd
    rw [List.nodup_cons] at hnd
    refine hnd.1 ?_
    rw [← e]
    simp only [grL, List.append_nil]
    exact hy
  have me : ∀ y, y ∈ M :: (ownV uv ++ ownU us) → y ∈ ownL G M uv us none := fun y hy => by
    unfold ownL
    simp only [grL, List.append_nil]
    exact List.mem_cons_of_mem _ hy
  have mv : ∀ y ∈ M :: (ownV uv ++ ownU us), (onceW w2 G ⟨x.1, 0, none⟩).heap[y]? = w.heap[y]? := fun y hy => mo y (me y hy) (nG y hy)
  refine ⟨⟨co 0 _ (by omega) (by omega) (by omega) k.c0, co 1 _ (by omega) (by omega) (by omega) k.c1, co 2 _ (by omega) (by omega) (by omega) k.c2, co 3 _ (by omega) (by omega) (by omega) k.c3, co 4 _ (by omega) (by omega) (by omega) k.c4, co 5 _ (by omega) (by omega) (by omega) k.c5, ?_, ?_, ?_, fun i => ?_, k.kn.moved (mv M (by simp)), own_moved k.row fun y hy => mv y (List.mem_cons_of_mem _ (List.mem_append_left _ (mem_ownV.2 hy))), fun z hz => own_moved (k.got z hz) fun y hy => mv y (List.mem_cons_of_mem _ (List.mem_append_right _ (by unfold ownU; rw [List.mem_flatMap]; exact ⟨z, hz, mem_ownV.2 hy⟩))), fun y hy => ?_, ?_, k.bG, k.bM, k.gn⟩, eo⟩
  · rw [World.cell?_setCell_other _ _ _ _ (by simp)]
    refine World.cell?_setCell_same _ _ _ (u := .int .u32 0) ?_
    rw [World.cell?_drew, World.cell?_setCell_other _ _ _ _ (by simp)]
    exact c6
  · refine World.cell?_setCell_same _ ⟨G, 6 + 1, none⟩ _ (u := .int .i32 1) ?_
    rw [World.cell?_setCell_other _ _ _ _ (by simp), World.cell?_drew, World.cell?_setCell_other _ _ _ _ (by simp)]
    exact c7
  · rw [World.cell?_setCell_other _ _ _ _ (by simp), World.cell?_setCell_other _ _ _ _ (by simp), World.cell?_drew]
    exact World.cell?_setCell_same _ _ _ c9
  · rw [World.frozen?_setCell, World.frozen?_setCell]
    exact (World.frozen?_setCell _ _ _ _).trans (fw i)
  · injection hy with hy
    subst hy
    exact ⟨hg.moved (ne _ nx1) (ne _ nx2), by omega, by omega⟩
  · unfold ownL at hnd ⊢
    simp only [grL, List.append_nil] at hnd ⊢
    have e : G :: M :: (ownV uv ++ (ownU us ++ [x.1, x.2])) = (G :: M :: (ownV uv ++ ownU us)) ++ [x.1, x.2] := by simp
    rw [e, List.nodup_append]
    refine ⟨hnd, by simp [x3], fun a ha c hc q => ?_⟩
    have hl : a < w.heap.size := lt (by unfold ownL; simp only [grL, List.append_nil]; exact ha)
    rw [List.mem_cons, List.mem_singleton] at hc
    rcases hc with hc | hc <;> omega
set_option maxRecDepth 100000 in
theorem once_f {B P room b l G M : Nat} {s : MS} {w : World} {H : Nat → Prop} (h : Mc B P room b l G M s w H) (hm : mayR b l = true) (hB : B ≤ w.heap.size) (bx : Nat) (cb : w.cell? ⟨bx, 0, none⟩ = some (.pointer (some ⟨G, 0, none⟩))) (nb : ¬ H bx) :
    Calls Tryz.prog 58 #[.pointer (some ⟨G, 6, none⟩), .func (.func 59) #[] #[.pointer (some ⟨bx, 0, none⟩)]] w fun e w' => e = .returned (.tuple #[]) ∧ ∃ x, Goz (McS B P room b l G M x s) w H w' := by
  obtain ⟨uv, us, gr, Hs, k1, k2, k3, k4, rfl⟩ := h
  cases gr with
  | some x =>
    refine (do_done ⟨G, 6, none⟩ _ w k2.c6).mono ?_
    rintro e w' ⟨rfl, rfl⟩
    exact ⟨rfl, x, _, ⟨uv, us, Hs, k1, k2, k3, k4, rfl⟩, Stp.refl _ _⟩
  | none =>
    have nbG : ¬ bx = G := fun e => nb (.inl (e ▸ own_G))
    have hG := (k2.lt own_G).2
    have oc : ∀ i v, ¬ i = 7 → w.cell? ⟨G, i, none⟩ = some v → (w.setCell ⟨G, 6 + 1, none⟩ (.int .i32 1)).cell? ⟨G, i, none⟩ = some v := fun i v hi hv => (World.cell?_setCell_other _ _ _ _ (by simp <;> omega)).trans hv
    refine (do_first G 6 59 #[.pointer (some ⟨bx, 0, none⟩)] w (MadeG (w.setCell ⟨G, 6 + 1, none⟩ (.int .i32 1)) P b l G) k2.c6 k2.c7 (k2.fz 7) (fun args w => enter_run Tryz.func59 (by kernel_rfl) (by kernel_rfl) args w) ?_ ?_).mono ?_
    · refine mid1_f hm ((World.cell?_setCell_other _ _ _ _ (fun q => nbG (by injection q with q; exact q.symm))).trans cb) (oc 0 _ (by omega) k2.c0) (oc 1 _ (by omega) k2.c1) (oc 2 _ (by omega) k2.c2) (oc 9 _ (by omega) k2.c9) ((World.frozen?_setCell _ _ _ _).trans (k2.fz 9)) nbG
    · rintro w' ⟨w2, x, hg, x1, x2, x3, hb, rfl⟩
      have hs : (w.setCell ⟨G, 6 + 1, none⟩ (.int .i32 1)).heap.size = w.heap.size := by simp
      rw [hs] at hb
      have cw : ∀ i, w2.cell? ⟨G, i, none⟩ = (w.setCell ⟨G, 6 + 1, none⟩ (.int .i32 1)).cell? ⟨G, i, none⟩ := fun i => World.cell?_of_block (hb.block G hG)
      have fw : ∀ i, w2.frozen? ⟨G, i, none⟩ = false := fun i => (World.frozen?_of_block (a := ⟨G, i, none⟩) (hb.block G hG)).trans ((World.frozen?_setCell _ _ _ _).trans (k2.fz i))
      refine ⟨?_, ?_, (World.frozen?_setCell _ _ _ _).trans (fw 6), (World.frozen?_setCell _ _ _ _).trans (fw 7)⟩
      · rw [World.cell?_setCell_other _ _ _ _ (by simp), cw]
        exact oc 6 _ (by omega) k2.c6
      · rw [World.cell?_setCell_other _ _ _ _ (by simp), cw]
        exact World.cell?_setCell_same _ _ _ k2.c7
    · rintro e w' ⟨rfl, w2', ⟨w2, x, hg, x1, x2, x3, hb, rfl⟩, rfl⟩
      have hs : (w.setCell ⟨G, 6 + 1, none⟩ (.int .i32 1)).heap.size = w.heap.size := by simp
      rw [hs] at x1 x2 hb
      obtain ⟨km, ko⟩ := once_mach k2 hB hg x1 x2 x3 hb
      refine ⟨rfl, x, _, ⟨uv, us, Hs, k1.moved fun y hy => ko y (k1.lt y hy).2 fun e => k4 G own_G (e ▸ hy), km, k3, fun y hy hs2 => ?_, rfl⟩, ⟨hb.os, hb.tape, hb.output, by simpa using hb.size, fun y hy hn => ko y hy fun e => hn (.inl (e ▸ own_G)), fun y hy => ?_⟩⟩
      · have := (k1.lt y hs2).2
        rcases own_in hy with e | e | e | ⟨z, hz, e⟩ | ⟨z, hz, e⟩
        · exact k4 y (e ▸ own_G) hs2
        · exact k4 y (e ▸ own_M) hs2
        · exact k4 y (own_u e) hs2
        · exact k4 y (own_h hz e) hs2
        · injection hz with hz
          subst hz
          rcases e with e | e <;> omega
      · rcases hy with hy | hy
        · rcases own_in hy with e | e | e | ⟨z, hz, e⟩ | ⟨z, hz, e⟩
          · exact .inl (.inl (e ▸ own_G))
          · exact .inl (.inl (e ▸ own_M))
          · exact .inl (.inl (own_u e))
          · exact .inl (.inl (own_h hz e))
          · injection hz with hz
            subst hz
            rcases e with e | e <;> exact .inr (by omega)
        · exact .inl (.inr hy)
end Go.Proofs.YtlejohclijjhnaaGreatDoor.Fm
namespace Go.Proofs.YtlejohclijjhnaaGreatDoor.Fm
open Go.RowKit Ti Qd Go.Maps Go.WideMaps Ru

theorem Mach.regr {B : Nat} {w w' : World} {P b l G M : Nat} {uv : Value} {us : List FH} {K : Kn} {out : Int} {x : Nat × Nat} (k : Mach B w P b l G M uv us (some x) K out) (hb : ∀ y ∈ ownL G M uv us (some x), ¬ y = x.2 → w'.heap[y]? = w.heap[y]?) (hg : GrA w' P b l x) : Mach B w' P b l G M uv us (some x) K out := by
  have hnd := k.nd
  have e : ownL G M uv us (some x) = (G :: M :: (ownV uv ++ ownU us)) ++ [x.1, x.2] := by simp [ownL, grL]
  rw [e] at hnd hb
  rw [List.nodup_append] at hnd
  obtain ⟨_, _, h3⟩ := hnd
  have mv : ∀ y ∈ G :: M :: (ownV uv ++ ownU us), w'.heap[y]? = w.heap[y]? := fun y hy => hb y (List.mem_append_left _ hy) (h3 y hy x.2 (by simp))
  have hG := mv G (by simp)
  have c := fun i => World.cell?_of_block (w := w) (w' := w') (a := ⟨G, i, none⟩) hG
  exact ⟨(c 0).trans k.c0, (c 1).trans k.c1, (c 2).trans k.c2, (c 3).trans k.c3, (c 4).trans k.c4, (c 5).trans k.c5, (c 6).trans k.c6, (c 7).trans k.c7, (c 9).trans k.c9, fun i => (World.frozen?_of_block hG).trans (k.fz i), k.kn.moved (mv M (by simp)), own_moved k.row fun y hy => mv y (by simp [mem_ownV, hy]), fun z hz => own_moved (k.got z hz) fun y hy => mv y (by
    have : y ∈ ownU us := by unfold ownU; rw [List.mem_flatMap]; exact ⟨z, hz, mem_ownV.2 hy⟩
    simp [this]), fun y hy => by
    injection hy with hy
    subst hy
    exact ⟨hg, (k.gw x rfl).2⟩, k.nd, k.bG, k.bM, k.gn⟩
theorem ctr_kn (L : List Sq) (k : Int) : (ctrG (L, K0) k).1.2 = K0 := by
  unfold ctrG midG
  split <;> rfl
/-- the calls of what finds middles -/
theorem McS.grow {B P room b l G M : Nat} {x : Nat × Nat} {s : MS} {w : World} {H : Nat → Prop} (h : McS B P room b l G M x s w H) : ∃ Hg, Gr B w x.1 P x.2 b l (s.L, K0) room Hg ∧ w.cell? ⟨G, 9, none⟩ = some (.pointer (some ⟨x.1, 0, none⟩)) ∧ ∀ (L' : List Sq) (w' : World), Gt B w x.1 P x.2 b l room Hg (L', K0) w' → Goz (Mc B P room b l G M ⟨L', s.K, s.U, s.out⟩) w H w' := by
  obtain ⟨uv, us, Hs, h1, h2, h3, h4, rfl⟩ := h
  obtain ⟨g1, g2, g3⟩ := h2.gw x rfl
  have m := own_g (G := G) (M := M) (uv := uv) (us := us) (gr := some x) rfl
  have ne : ¬ x.1 = x.2 := fun e => by
    have hnd := h2.nd
    have e2 : ownL G M uv us (some x) = (G :: M :: (ownV uv ++ ownU us)) ++ [x.1, x.2] := by simp [ownL, grL]
    rw [e2, List.nodup_append] at hnd
    have := hnd.2.1
    simp at this
    exact this e
  refine ⟨_, ⟨Hs, ⟨h1, g1.c0, g1.c1, g1.c2, g1.c3, g1.kn, g2, g3, h4 _ m.1, h4 _ m.2, ne⟩, rfl⟩, h2.c9, ?_⟩
  rintro L' w' ⟨H', ⟨Hs', gro, rfl⟩, st⟩
  have mv : ∀ y ∈ ownL G M uv us (some x), ¬ y = x.2 → w'.heap[y]? = w.heap[y]? := fun y hy hn => st.block y (h2.lt hy).2 fun e => by
    rcases e with e | e
    · exact hn e
    · exact h4 y hy e
  have km := h2.regr mv ⟨gro.c0, gro.c1, gro.c2, gro.c3, gro.kn⟩
  refine ⟨_, ⟨uv, us, some x, Hs', gro.st, km, h3, fun y hy hs => ?_, rfl⟩, ⟨st.os, st.tape, st.output, st.size, fun y hy hn => st.block y hy fun e => hn ?_, fun y hy => ?_⟩⟩
  · rcases st.own y (.inr hs) with q | q
    · rcases q with q | q
      · exact gro.nM (q ▸ hs)
      · exact h4 y hy q
    · have := (h2.lt hy).2
      omega
  · rcases e with e | e
    · exact .inl (e ▸ m.2)
    · exact .inr e
  · rcases hy with hy | hy
    · exact .inl (.inl hy)
    · rcases st.own y (.inr hy) with q | q
      · rcases q with q | q
        · exact .inl (.inl (q ▸ m.2))
        · exact .inl (.inr q)
      · exact .inr q
abbrev pbx (G : Nat) : Obj := .cells #[.pointer (some ⟨G, 0, none⟩)] 31
set_option maxRecDepth 100000 in
set_option maxHeartbeats 2000000 in
theorem middle_f {B P room b l G M : Nat} {s : MS} {w : World} {H : Nat → Prop} (h : Mc B P room b l G M s w H) (hm : mayR b l = true) (hB : B ≤ w.heap.size) (id : Int) (n : Nat) (hn : n ≤ 36) (hl : Lv s.L (n + 1) id) (hr : (ctrG (s.L, K0) id).1.1.length ≤ room) :
    Calls Tryz.prog 37 #[.pointer (some ⟨G, 0, none⟩), .int .i64 id] w fun e w' => e = .returned (.tuple #[.int .i64 (ctrG (s.L, K0) id).2, .nilIface]) ∧ Goz (Mc B P room b l G M ⟨(ctrG (s.L, K0) id).1.1, s.K, s.U, s.out⟩) w H w' := by
  have HS := Lib.hid ((Bs.start h).alloc (mc_fpt B P room b l G M s) (pbx G) rfl)
  obtain ⟨H1, h1, h2, h3⟩ := HS.out.call
  have cb := one_cell HS.out.b0
  have HO := Lib.hid (once_f h1 hm (show B ≤ (w.alloc (pbx G)).heap.size by simp; omega) w.heap.size cb (h2 _ List.mem_cons_self))
  have HN := Lib.hid h3
  have HC := Lib.hid (fun (x : Nat × Nat) (W : World) (Hg : Nat → Prop) (hg : Gr B W x.1 P x.2 b l (s.L, K0) room Hg) => center_ok hg n hn id hl hr)
  have hmf : ∀ (fn : Fn) (first cap : Array Value) (w : World), (Instr.makeFunc fn first cap).run Tryz.prog w = .ok (.func fn first cap) w := fun _ _ _ _ => rfl
  have HK := Lib.hid (ctr_kn s.L id)
  have hC : ∀ (x : Nat × Nat) (W : World) (Hg : Nat → Prop), Gr B W x.1 P x.2 b l (s.L, K0) room Hg → Calls Tryz.prog 60 #[.pointer (some ⟨x.1, 0, none⟩), .int .i64 id] W fun e w' => e = .returned (.tuple #[.int .i64 (ctrG (s.L, K0) id).2, .nilIface]) ∧ Gt B W x.1 P x.2 b l room Hg ((ctrG (s.L, K0) id).1.1, K0) w' := fun x W Hg hg => by
    have := HC.out x W Hg hg
    have e : (ctrG (s.L, K0) id).1 = ((ctrG (s.L, K0) id).1.1, K0) := Prod.ext rfl HK.out
    rw [← e]
    exact this
  have HC := Lib.hid hC
  generalize ctrG (s.L, K0) id = c at *
  clear h h1 h2 h3 hm hl hr hB hC HK
  go_enter Tryz.func37, Tryz.ntmps37
  go_upto_region 1 with (fail)
  generalize World.alloc _ _ = W at *
  go_wp2_with fail
  refine HO.out.mono ?_
  rintro e w1 ⟨rfl, x, hg⟩
  have HS1 := Lib.hid (HN.out _ _ hg)
  clear hg cb HO HN HS hmf
  obtain ⟨H2, k1, _, k3⟩ := HS1.out.call
  obtain ⟨Hg, g1, g2, g3⟩ := k1.grow
  have HCC := Lib.hid (HC.out x w1 Hg g1)
  have HN2 := Lib.hid (fun L' w' hg => k3 _ _ (g3 L' w' hg))
  have cb := one_cell HS1.out.b0
  clear k1 k3 g1 g3 HC
  go_wp2_with fail
  refine HCC.out.mono ?_
  rintro e w2 ⟨rfl, hg⟩
  have HS2 := Lib.hid (HN2.out _ _ hg)
  clear hg
  go_wp2
  go_ret2
  exact ⟨rfl, HS2.out.out⟩
end Go.Proofs.YtlejohclijjhnaaGreatDoor.Fm

/-
  THE WALK of the document's own May. Conditions: the records lie in memory.
-/
import Derived.Test.YtmfddecndadohaaDoorQa
namespace Go.Proofs.YtmfddecndadohaaDoor
open Go.RowKit Crc

set_option maxRecDepth 100000 in
theorem quiet_room (s : Int) (w : World) (k : Nat) (hs : s ≤ 9223372036854775807) :
    Calls Tryd.prog 13 #[.int .i64 s] (w.drewN k) fun e w'' => e = .returned (.int .i64 (room s)) ∧ ∃ m, w'' = w.drewN m :=
  Calls.quiet_of_same ((refroom_any s (w.drewN k) hs).mono fun _ _ ⟨h, e⟩ => ⟨h, e.symm⟩)
set_option maxRecDepth 100000 in
set_option maxHeartbeats 1000000 in
theorem may_any (ki nu ep si : Int) (a : Option Addr) (n c : Nat) (rs : List (List Int)) (w : World) (hn : rs.length = n) (hm : n ≤ 9223372036854775807) (hs : si ≤ 9223372036854775807) (hr : Recs w a rs) :
    Calls Tryd.prog 15 #[.agg #[.int .u8 ki, .int .u32 nu, .int .u64 ep, .int .i64 si, .slice a n c]] w fun e w' => e = .returned (.bool (Pg.mkPg ki nu ep si rs).may) ∧ Below w.heap.size w w' := by
  rw [may_eq ki nu ep si rs n hn]
  have hb := alX w (inPg ki nu ep si a n c)
  have HR := Lib.hid (hr.below hb)
  have HB := Lib.hid hb
  have HN := Lib.hid hn
  have hq := fun (W : World) (k : Nat) => quiet_room si W k hs
  have rb := room_bd si
  clear hr hb hn
  by_cases h0 : room si = 0
  · have h0' : (room si == 0) = true := by rw [h0]; rfl
    have hf : fitsB si n = false := fits_no0 (by omega)
    rw [hf]
    clear h0 hf
    go_enter Tryd.func15, Tryd.ntmps15
    go_wp2
    go_quiet ((go_at_call 13; exact hq _ _))
    go_wp2
    go_ret
    exact ⟨rfl, Below.drewN' HB.out _⟩
  · have h0' : (room si == 0) = false := by rw [beq_eq_false_iff_ne]; exact h0
    by_cases h1 : room si < (n : Int)
    · have hf : fitsB si n = false := by rw [fits_yes (by omega)]; exact decide_eq_false (by omega)
      rw [hf]
      clear h0 hf
      go_enter Tryd.func15, Tryd.ntmps15
      go_wp2
      go_quiet ((go_at_call 13; exact hq _ _))
      go_wp2
      go_ret
      exact ⟨rfl, Below.drewN' HB.out _⟩
    · have hf : fitsB si n = true := by rw [fits_yes (by omega)]; exact decide_eq_true (by omega)
      rw [hf]
      have hd : decide (room si < (n : Int)) = false := decide_eq_false h1
      clear h0 hf
      go_enter Tryd.func15, Tryd.ntmps15
      go_wp2
      go_quiet ((go_at_call 13; exact hq _ _))
      go_wp2
      have HK3 := Lib.hid (show ((w.alloc (inPg ki nu ep si a n c)).drewN nq).cell? ⟨w.heap.size, 3, none⟩ = some (.int .i64 si) by simp)
      have HK4 := Lib.hid (show ((w.alloc (inPg ki nu ep si a n c)).drewN nq).cell? ⟨w.heap.size, 4, none⟩ = some (.slice a n c) by simp)
      have HRD : Hid (Recs ((w.alloc (inPg ki nu ep si a n c)).drewN nq) a rs) := HR
      have HBD := Lib.hid (Below.drewN' HB.out nq)
      change Code.wp _ _ _ _ ((w.alloc (inPg ki nu ep si a n c)).drewN nq)
      generalize (w.alloc (inPg ki nu ep si a n c)).drewN nq = W2 at HK3 HK4 HRD HBD ⊢
      clear HR HB hq hd h0' h1 rb
      go_loopw [3] (fun i wr => ∃ k m : Nat, k ≤ n ∧ i = .int .i64 k ∧ Hid ((rs.take k).any (badB si) = false) ∧ Hid (wr = W2.drewN m)) (fun i _ => n - (intOf i).toNat)
      case atStart => exact ⟨0, 0, by omega, rfl, Lib.hid (by simp), Lib.hid rfl⟩
      case round =>
        obtain ⟨k, m, hk, rfl, HA, hwr⟩ := hrel
        have hwr' := hwr.out
        clear hwr
        subst hwr'
        have k3 := HK3.out
        have k4 := HK4.out
        by_cases hlt : k < n
        · have hkl : k < rs.length := by rw [HN.out]; exact hlt
          obtain ⟨b, off, ra, rc, rfl, hcell, _⟩ := HRD.out k hkl
          have hbb : badB si rs[k] = ((rs[k].length : Int) != si) := rfl
          have HBB := Lib.hid hbb
          clear hbb
          have hki : (k : Int) < (n : Int) := by omega
          generalize hL : rs[k].length = L at hcell HBB
          clear hL
          cases hne : ((L : Int) != si)
          · have HNE := Lib.hid hne
            go_wp2
            go_quiet (fail)
            go_wp2
            go_roundw
            case rel => exact ⟨k + 1, m + nq, by omega, by go_num, Lib.hid (any_take _ _ _ hkl HA.out (by rw [HBB.out, HNE.out])), Lib.hid rfl⟩
            case measure => simp [intOf]; omega
          · have HNE := Lib.hid hne
            go_wp2
            go_quiet (fail)
            go_wp2
            go_ret
            exact ⟨ret_bool (by rw [any_at (badB si) rs k hkl (by rw [HBB.out, HNE.out])]; rfl), Below.drewN' (Below.drewN' HBD.out _) _⟩
        · obtain rfl : k = n := by omega
          go_wp2
          go_ret
          exact ⟨ret_bool (by have := HA.out; rw [List.take_of_length_le (by rw [HN.out]; exact Nat.le_refl _)] at this; rw [this]; rfl), Below.drewN' HBD.out _⟩
end Go.Proofs.YtmfddecndadohaaDoor

/-
  THE WALK of the statements' own `samePage` over two pages that are the same. Conditions: the records lie in memory.
-/
import Derived.Test.YtmfddecndadohaaDoorHuge
namespace Go.Proofs.YtmfddecndadohaaDoor
open Go.RowKit Crc

set_option maxRecDepth 100000 in
set_option maxHeartbeats 1000000 in
theorem same_any (ki nu ep si : Int) (a a2 : Option Addr) (n c c2 : Nat) (rs : List (List Int)) (w : World) (hn : rs.length = n) (hm : n ≤ 9223372036854775807) (hr : Recs w a rs) (hr2 : Recs w a2 rs) :
    Calls Tryd.prog 14 #[.agg #[.int .u8 ki, .int .u32 nu, .int .u64 ep, .int .i64 si, .slice a n c], .agg #[.int .u8 ki, .int .u32 nu, .int .u64 ep, .int .i64 si, .slice a2 n c2]] w fun e w' => e = .returned (.bool true) ∧ Below w.heap.size w w' := by
  have b1 := alX w (.cells #[.int .u8 ki, .int .u32 nu, .int .u64 ep, .int .i64 si, .slice a n c] 29)
  have b2 := b1.alloc b1.size (inPg ki nu ep si a2 n c2)
  have HR := Lib.hid (hr.below b2)
  have HR2 := Lib.hid (hr2.below b2)
  have HB := Lib.hid b2
  have HN := Lib.hid hn
  clear hr hr2 hn b1 b2
  go_enter Tryd.func14, Tryd.ntmps14
  go_wp2
  have HK1 := Lib.hid (show ((w.alloc (.cells #[.int .u8 ki, .int .u32 nu, .int .u64 ep, .int .i64 si, .slice a n c] 29)).alloc (inPg ki nu ep si a2 n c2)).cell? ⟨w.heap.size, 4, none⟩ = some (.slice a n c) by simp)
  have HK2 := Lib.hid (show ((w.alloc (.cells #[.int .u8 ki, .int .u32 nu, .int .u64 ep, .int .i64 si, .slice a n c] 29)).alloc (inPg ki nu ep si a2 n c2)).cell? ⟨w.heap.size + 1, 4, none⟩ = some (.slice a2 n c2) by simp)
  change Code.wp _ _ _ _ ((w.alloc (.cells #[.int .u8 ki, .int .u32 nu, .int .u64 ep, .int .i64 si, .slice a n c] 29)).alloc (inPg ki nu ep si a2 n c2))
  generalize (w.alloc (.cells #[.int .u8 ki, .int .u32 nu, .int .u64 ep, .int .i64 si, .slice a n c] 29)).alloc (inPg ki nu ep si a2 n c2) = W2 at HR HR2 HB HK1 HK2 ⊢
  go_loopw [5] (fun i wr => ∃ k m : Nat, k ≤ n ∧ i = .int .i64 k ∧ Hid (wr = W2.drewN m)) (fun i _ => n - (intOf i).toNat)
  case atStart => exact ⟨0, 0, by omega, rfl, Lib.hid rfl⟩
  case round =>
    obtain ⟨k, m, hk, rfl, hwr⟩ := hrel
    have hwr' := hwr.out
    clear hwr
    subst hwr'
    have k1 := HK1.out
    have k2 := HK2.out
    by_cases hlt : k < n
    · have hkl : k < rs.length := by rw [HN.out]; exact hlt
      obtain ⟨b, off, ra, rc, rfl, hcell, hl, _⟩ := HR.out k hkl
      obtain ⟨b', off', ra', rc', rfl, hcell', hl', _⟩ := HR2.out k hkl
      have hcv : ∀ q, (convert 30 9 (.slice ra rs[k].length rc)).run Tryd.prog (W2.drewN q) = .ok (.string (strOfNums rs[k])) (W2.drewN q) := fun q => conv_any (hl.drewN q) rfl
      have hcv' : ∀ q, (convert 30 9 (.slice ra' rs[k].length rc')).run Tryd.prog (W2.drewN q) = .ok (.string (strOfNums rs[k])) (W2.drewN q) := fun q => conv_any (hl'.drewN q) rfl
      generalize strOfNums rs[k] = S at hcv hcv'
      generalize rs[k].length = L at hcell hcell' hcv hcv'
      have hki : (k : Int) < (n : Int) := by omega
      clear hl hl'
      go_wp2
      go_quiet (fail)
      go_wp2
      go_roundw
      case rel => exact ⟨k + 1, m + nq, by omega, by go_num, Lib.hid rfl⟩
      case measure => simp [intOf]; omega
    · obtain rfl : k = n := by omega
      go_wp2
      go_ret
      exact ⟨rfl, Below.drewN' HB.out m⟩
end Go.Proofs.YtmfddecndadohaaDoor

/-
  The contracts of ahead and Seconds.
-/
import Derived.Test.YthcgdbmcpnmeeaaDoorDays
namespace Go.Proofs.YthcgdbmcpnmeeaaDoor
set_option linter.unusedVariables false
open Go.RowKit

set_option maxHeartbeats 800000 in
theorem ahead_any (y : Int) (w : World) (h0 : 1900 ≤ y) (h1 : y ≤ 3000) : Calls Tryd.prog 21 #[.int .i64 y] w fun e w' => e = .returned (.int .i64 (aheadN (y - 1900).toNat)) ∧ Below w.heap.size w w' := by
  go_enter Tryd.func21, Tryd.ntmps21
  go_wp2_with fail
  go_loopw [3, 4] (fun n i wr => ∃ k : Nat, 1900 + (k : Int) ≤ y ∧ i = .int .i64 (1900 + (k : Int)) ∧ n = .int .i64 (aheadN k) ∧ Below w.heap.size w wr) (fun _ i _ => (3000 - intOf i).toNat)
  case atStart => exact ⟨0, by omega, rfl, rfl, Below.refl _ _⟩
  case round =>
    obtain ⟨k, hk, rfl, rfl, hb⟩ := hrel
    have hbd := ahead_bd k
    have hs := hb.size
    by_cases hlt : 1900 + (k : Int) < y
    · have hdim := dim_bd (1900 + (k : Int)) 2
      have he : Hid (aheadN (k + 1) = aheadN k + (dim (1900 + (k : Int)) 2 - 28 + 365)) := by
        show aheadN k + yr (1900 + k) = _
        unfold yr dim
        simp only [if_true]
        split <;> omega
      go_wp2_with fail
      refine (days_any (1900 + (k : Int)) 2 _ (by omega) (by omega) (by omega) (by omega)).mono ?_
      rintro e w1 ⟨rfl, hb1⟩
      go_wp2_with fail
      go_roundw
      case rel => exact ⟨k + 1, by omega, by go_num, by rw [he.out], hb.trans (hb1.mono hs)⟩
      case measure => simp [intOf]; omega
    · have hky : y - 1900 = (k : Int) := by omega
      have HK := Lib.hid hky
      clear hky
      go_wp2_with fail
      go_ret
      rw [HK.out]
      exact ⟨rfl, hb⟩
end Go.Proofs.YthcgdbmcpnmeeaaDoor

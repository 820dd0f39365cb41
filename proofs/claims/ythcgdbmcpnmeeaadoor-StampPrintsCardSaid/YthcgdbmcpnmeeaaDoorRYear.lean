/-
  The reference's year: how many days.
-/
import Derived.Test.YthcgdbmcpnmeeaaDoorDays
namespace Go.Proofs.YthcgdbmcpnmeeaaDoor
set_option linter.unusedVariables false
open Go.RowKit

set_option maxHeartbeats 400000 in
theorem ryear_any (y : Int) (w : World) (h0 : 0 ≤ y) (h1 : y ≤ 100000) : Calls Tryd.prog 22 #[.int .i64 y] w fun e w' => e = .returned (.int .i64 (yr y)) ∧ w = w' := by
  cases hl : leapB y
  all_goals
    have HL := Lib.hid hl
    clear hl
    go_enter Tryd.func22, Tryd.ntmps22
    go_wp2_with fail
    refine (rleap_any y _ h0 h1).mono ?_
    rintro e w1 ⟨rfl, rfl⟩
    rw [HL.out]
    go_wp2_with fail
    go_ret
    exact ⟨ret_eq (by simp [yr, HL.out]), rfl⟩
end Go.Proofs.YthcgdbmcpnmeeaaDoor

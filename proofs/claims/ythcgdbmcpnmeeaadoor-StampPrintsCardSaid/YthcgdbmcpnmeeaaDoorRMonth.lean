/-
  The reference's month: its name.
-/
import Derived.Test.YthcgdbmcpnmeeaaDoorMonth
import Derived.Test.YthcgdbmcpnmeeaaDoorRet
namespace Go.Proofs.YthcgdbmcpnmeeaaDoor
set_option linter.unusedVariables false
open Go.RowKit

set_option maxHeartbeats 1000000 in
theorem rmonth_any (j : Nat) (w : World) (hj : j < 12) : Calls Tryd.prog 18 #[.int .i64 ((j : Int) + 1)] w fun e w' => e = .returned (.string (nameB j)) ∧ w = w' := by
  have : j = 0 ∨ j = 1 ∨ j = 2 ∨ j = 3 ∨ j = 4 ∨ j = 5 ∨ j = 6 ∨ j = 7 ∨ j = 8 ∨ j = 9 ∨ j = 10 ∨ j = 11 := by omega
  clear hj
  rcases this with rfl | rfl | rfl | rfl | rfl | rfl | rfl | rfl | rfl | rfl | rfl | rfl
  all_goals
    go_enter Tryd.func18, Tryd.ntmps18
    go_wp2_with fail
    go_ret
    exact ⟨ret_eq (congrArg Value.string (by decide +kernel)), rfl⟩
end Go.Proofs.YthcgdbmcpnmeeaaDoor

/-
  The contract of leap.
-/
import Derived.Test.YtacalpgiopgkkaaDoorS8Ret
namespace Go.Proofs.YtacalpgiopgkkaaDoor
namespace S8
set_option linter.unusedVariables false
open Go.RowKit
set_option maxHeartbeats 400000 in
theorem leap_any (y : Int) (w : World) (h0 : 0 ≤ y) (h1 : y ≤ 100000) : Calls Tryd.prog 75 #[.int .i64 y] w fun e w' => e = .returned (.bool (leapB y)) ∧ w = w' := by
  have e4 : y.tmod 4 = y % 4 := Int.tmod_eq_emod_of_nonneg h0
  have e100 : y.tmod 100 = y % 100 := Int.tmod_eq_emod_of_nonneg h0
  have e400 : y.tmod 400 = y % 400 := Int.tmod_eq_emod_of_nonneg h0
  by_cases h4 : y % 4 = 0
  · by_cases h100 : y % 100 = 0
    · by_cases h400 : y % 400 = 0
      · have hl := Lib.hid (show leapB y = true by simp [leapB, h4, h400])
        go_enter Tryd.func75, Tryd.ntmps75
        go_wp2_with fail
        go_ret
        exact ⟨ret_eq (by rw [hl.out]; rfl), rfl⟩
      · have hl := Lib.hid (show leapB y = false by simp [leapB, h100, h400])
        go_enter Tryd.func75, Tryd.ntmps75
        go_wp2_with fail
        go_ret
        exact ⟨ret_eq (by rw [hl.out]; simp [h400]), rfl⟩
    · have hl := Lib.hid (show leapB y = true by simp [leapB, h4, h100])
      go_enter Tryd.func75, Tryd.ntmps75
      go_wp2_with fail
      go_ret
      exact ⟨ret_eq (by rw [hl.out]; rfl), rfl⟩
  · have hl := Lib.hid (show leapB y = false by simp [leapB, h4])
    go_enter Tryd.func75, Tryd.ntmps75
    go_wp2_with fail
    go_ret
    exact ⟨ret_eq (by rw [hl.out]; rfl), rfl⟩

end S8
end Go.Proofs.YtacalpgiopgkkaaDoor

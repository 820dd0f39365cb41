/-
  The contract of days.
-/
import Derived.Test.YtacalpgiopgkkaaDoorS8Leap
namespace Go.Proofs.YtacalpgiopgkkaaDoor
namespace S8
set_option linter.unusedVariables false
open Go.RowKit
set_option maxHeartbeats 1600000 in
theorem days_any (y m : Int) (w : World) (h0 : 0 ≤ y) (h1 : y ≤ 100000) (m0 : 1 ≤ m) (m1 : m ≤ 12) : Calls Tryd.prog 64 #[.int .i64 y, .int .i64 m] w fun e w' => e = .returned (.int .i64 (dim y m)) ∧ Below w.heap.size w w' := by
  rcases (show m = 2 ∨ m = 1 ∨ m = 3 ∨ m = 4 ∨ m = 5 ∨ m = 6 ∨ m = 7 ∨ m = 8 ∨ m = 9 ∨ m = 10 ∨ m = 11 ∨ m = 12 by omega) with rfl | rfl | rfl | rfl | rfl | rfl | rfl | rfl | rfl | rfl | rfl | rfl
  · cases hl : leapB y
    all_goals
      have HL := Lib.hid hl
      clear hl
      go_enter Tryd.func64, Tryd.ntmps64
      go_wp2_with fail
      refine (leap_any y _ h0 h1).mono ?_
      rintro e w1 ⟨rfl, rfl⟩
      rw [HL.out]
      go_wp2_with fail
      go_ret
      exact ⟨ret_eq (by simp [dim, HL.out]), (Below.refl _ _).alloc (Nat.le_refl _) _⟩
  all_goals
    go_enter Tryd.func64, Tryd.ntmps64
    go_wp2_with fail
    go_ret
    exact ⟨ret_eq (by simp [dim]), (Below.refl _ _).alloc (Nat.le_refl _) _⟩

end S8
end Go.Proofs.YtacalpgiopgkkaaDoor

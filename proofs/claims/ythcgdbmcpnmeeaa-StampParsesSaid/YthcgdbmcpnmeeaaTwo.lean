/-
  The reference's two: two digits, or -1.
-/
import Derived.Test.YthcgdbmcpnmeeaaMonth
import Derived.IntWalk
namespace Go.Proofs.Ythcgdbmcpnmeeaa
set_option linter.unusedVariables false
open Go.RowKit

set_option maxHeartbeats 1000000 in
theorem two_yes (s : ByteArray) (w : World) (hs : s.size = 2) (a0 : digB s[0] = true) (a1 : digB s[1] = true) :
    Calls Try.prog 19 #[.string s] w fun e w' => e = .returned (.int .i64 ((10 : Int) * ((s[0].toNat : Int) - (48 : Int)) + ((s[1].toNat : Int) - (48 : Int)))) ∧ Below w.heap.size w w' := by
  simp only [digB, Bool.and_eq_true, decide_eq_true_eq] at a0 a1
  obtain ⟨b0, b1⟩ := a0
  obtain ⟨b2, b3⟩ := a1
  go_enter Try.func19, Try.ntmps19
  go_wp2_with fail
  go_quiet (fail)
  go_wp2_with fail
  go_ret
  exact ⟨rfl, below_drewN (Below.refl _ _) _⟩

set_option maxHeartbeats 1000000 in
theorem two_no (s : ByteArray) (w : World) (hs : s.size = 2) (n : (digB s[0] && digB s[1]) = false) :
    Calls Try.prog 19 #[.string s] w fun e w' => e = .returned (.int .i64 (-1)) ∧ Below w.heap.size w w' := by
  have n' : ((s[0].toNat : Int) < 48) ∨ (48 ≤ (s[0].toNat : Int) ∧ 57 < (s[0].toNat : Int)) ∨ (48 ≤ (s[0].toNat : Int) ∧ (s[0].toNat : Int) ≤ 57 ∧ (s[1].toNat : Int) < 48) ∨ (48 ≤ (s[0].toNat : Int) ∧ (s[0].toNat : Int) ≤ 57 ∧ 48 ≤ (s[1].toNat : Int) ∧ 57 < (s[1].toNat : Int)) := by
    simp only [digB, Bool.and_eq_false_iff, decide_eq_false_iff_not] at n
    omega
  clear n
  rcases n' with h | ⟨h, h'⟩ | ⟨h, h', h''⟩ | ⟨h, h', h'', h3⟩
  all_goals
    go_enter Try.func19, Try.ntmps19
    go_wp2_with fail
    go_ret
    exact ⟨rfl, Below.refl _ _⟩
end Go.Proofs.Ythcgdbmcpnmeeaa

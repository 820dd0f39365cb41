/-
  The contract of awake: it answers true, and writes into nothing that was there.
-/
import Derived.Test.YtfaecojhkiombaaNum
namespace Go.Proofs.Ytfaecojhkiombaa
set_option linter.unusedVariables false
open Go.RowKit

theorem num300 : numB 300 = [2, 1, 44] := by decide +kernel

theorem awake_any (w : World) : Calls Try.prog 9 #[] w fun e w' => e = .returned (.bool true) ∧ Below w.heap.size w w' := by
  go_enter Try.func9, Try.ntmps9
  go_wp2_with fail
  have H := num_any 300 (by decide) w
  rw [num300] at H
  refine H.mono ?_
  rintro e w1 ⟨o, rfl, hown, hbel⟩
  obtain ⟨g, cap, hv', hg, hgs⟩ := hown.some (by simp)
  subst hv'
  have c0 := hown.cell rfl 0 (by simp)
  have c1 := hown.cell rfl 1 (by simp)
  have c2 := hown.cell rfl 2 (by simp)
  simp at c0 c1 c2
  clear hown
  go_wp2_with fail
  go_ret
  exact ⟨rfl, hbel⟩
end Go.Proofs.Ytfaecojhkiombaa

/-
  The walk of CodeNil.
-/
import Derived.Test.YtfaecojhkiombaaNew
namespace Go.Proofs.Ytfaecojhkiombaa.codeNil
set_option linter.unusedVariables false
open Go.RowKit

theorem walk (w : World) (v : Value) (l : List Nat) (hr : RowB w v l) (hs : l.length ≤ 140737488351232) :
    Calls Try.prog 7 #[v] w fun e w' => e = .returned (.bool true) ∧ Below w.heap.size w w' := by
  go_enter Try.func7, Try.ntmps7
  go_wp2_with fail
  refine (awake_any w).mono ?_
  rintro e w1 ⟨rfl, hbel⟩
  go_wp2_with (first | (go_at_call 16; refine (new_any v l _ (hr.below hbel) hs).mono ?_; rintro e w2 ⟨g, rfl, hmade, hbel2⟩) | go_in)
  go_ret
  exact ⟨rfl, hbel.trans (hbel2.mono hbel.size)⟩
end Go.Proofs.Ytfaecojhkiombaa.codeNil

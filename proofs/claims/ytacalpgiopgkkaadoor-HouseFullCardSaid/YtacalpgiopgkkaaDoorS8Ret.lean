/-
  Two answers that are one.
-/
import Derived.Test.YtacalpgiopgkkaaDoorS8Kit
namespace Go.Proofs.YtacalpgiopgkkaaDoor
namespace S8
set_option linter.unusedVariables false
open Go.RowKit
theorem ret_eq {u v : Value} (h : u = v) : Ending.returned u = Ending.returned v := by rw [h]
end S8
end Go.Proofs.YtacalpgiopgkkaaDoor

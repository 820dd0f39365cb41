/-
  The contract of the reference's days.
-/
import Derived.Test.YtacalpgiopgkkaaDoorS8RLeap
namespace Go.Proofs.YtacalpgiopgkkaaDoor
namespace S8
set_option linter.unusedVariables false
open Go.RowKit
end S8
end Go.Proofs.YtacalpgiopgkkaaDoor

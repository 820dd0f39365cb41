/-
  The contract of the reference's leap.
-/
import Derived.Test.YtacalpgiopgkkaaDoorS8Ret
namespace Go.Proofs.YtacalpgiopgkkaaDoor
namespace S8
set_option linter.unusedVariables false
open Go.RowKit
end S8
end Go.Proofs.YtacalpgiopgkkaaDoor

/-
  The contracts of ahead and Seconds.
-/
import Derived.Test.YtacalpgiopgkkaaDoorS8Days
namespace Go.Proofs.YtacalpgiopgkkaaDoor
namespace S8
set_option linter.unusedVariables false
open Go.RowKit

end S8
end Go.Proofs.YtacalpgiopgkkaaDoor

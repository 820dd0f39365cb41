/-
  The contracts of ahead and Seconds.
-/
import Derived.Test.YtacalpgiopgkkaaGreatDoorS8Days
namespace Go.Proofs.YtacalpgiopgkkaaGreatDoor
namespace S8
set_option linter.unusedVariables false
open Go.RowKit

end S8
end Go.Proofs.YtacalpgiopgkkaaGreatDoor

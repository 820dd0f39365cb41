/-
  The contract of the reference's days.
-/
import Derived.Test.YtacalpgiopgkkaaGreatDoorS8RLeap
namespace Go.Proofs.YtacalpgiopgkkaaGreatDoor
namespace S8
set_option linter.unusedVariables false
open Go.RowKit
end S8
end Go.Proofs.YtacalpgiopgkkaaGreatDoor

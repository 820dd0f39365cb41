/-
  The contracts of days, both sides.
-/
import Derived.Test.YtacalpgiopgkkaaGreatDoorS8DaysP
import Derived.Test.YtacalpgiopgkkaaGreatDoorS8DaysR
namespace Go.Proofs.YtacalpgiopgkkaaGreatDoor
namespace S8
end S8
end Go.Proofs.YtacalpgiopgkkaaGreatDoor

/-
  The library's contracts.
-/
import Derived.Test.YtacalpgiopgkkaaGreatDoorShelf
namespace Go.Proofs.YtacalpgiopgkkaaGreatDoor
end Go.Proofs.YtacalpgiopgkkaaGreatDoor

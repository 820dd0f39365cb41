/-
  The library's contracts.
-/
import Derived.Test.YtacalpgiopgkkaaDoorShelf
namespace Go.Proofs.YtacalpgiopgkkaaDoor
end Go.Proofs.YtacalpgiopgkkaaDoor

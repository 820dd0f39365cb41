/-
  The contracts of days, both sides.
-/
import Derived.Test.YtacalpgiopgkkaaDoorS8DaysP
import Derived.Test.YtacalpgiopgkkaaDoorS8DaysR
namespace Go.Proofs.YtacalpgiopgkkaaDoor
namespace S8
end S8
end Go.Proofs.YtacalpgiopgkkaaDoor

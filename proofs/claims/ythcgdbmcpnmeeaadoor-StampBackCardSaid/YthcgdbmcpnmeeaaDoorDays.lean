/-
  The contracts of days, both sides.
-/
import Derived.Test.YthcgdbmcpnmeeaaDoorDaysP
import Derived.Test.YthcgdbmcpnmeeaaDoorDaysR
namespace Go.Proofs.YthcgdbmcpnmeeaaDoor
end Go.Proofs.YthcgdbmcpnmeeaaDoor

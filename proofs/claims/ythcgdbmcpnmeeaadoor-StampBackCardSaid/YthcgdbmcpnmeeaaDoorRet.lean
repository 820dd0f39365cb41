/-
  Two answers that are one.
-/
import Derived.Test.YthcgdbmcpnmeeaaDoorKit
namespace Go.Proofs.YthcgdbmcpnmeeaaDoor
set_option linter.unusedVariables false
open Go.RowKit
theorem ret_eq {u v : Value} (h : u = v) : Ending.returned u = Ending.returned v := by rw [h]
end Go.Proofs.YthcgdbmcpnmeeaaDoor

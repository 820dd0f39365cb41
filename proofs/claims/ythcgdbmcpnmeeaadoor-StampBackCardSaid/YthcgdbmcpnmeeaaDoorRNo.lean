/-
  The contract of the reference's Right at a stamp that is not right: all ways in one.
-/
import Derived.Test.YthcgdbmcpnmeeaaDoorRYes
import Derived.Test.YthcgdbmcpnmeeaaDoorNoA
import Derived.Test.YthcgdbmcpnmeeaaDoorNoB
import Derived.Test.YthcgdbmcpnmeeaaDoorNoC
import Derived.Test.YthcgdbmcpnmeeaaDoorNoD
import Derived.Test.YthcgdbmcpnmeeaaDoorNoE
namespace Go.Proofs.YthcgdbmcpnmeeaaDoor
set_option linter.unusedVariables false
open Go.RowKit

theorem rright_no (y mo d h mi s z : Int) (w : World) (n : ¬ RightS y mo d h mi s z) : Calls Tryd.prog 9 #[.agg #[.int .i64 y, .int .i64 mo, .int .i64 d, .int .i64 h, .int .i64 mi, .int .i64 s, .int .i64 z]] w fun e w' => e = .returned (.bool false) ∧ Below w.heap.size w w' := by
  by_cases a1 : 1900 ≤ y
  case neg => exact rright_no1 y mo d h mi s z w  (by omega)
  by_cases a2 : y ≤ 2999
  case neg => exact rright_no2 y mo d h mi s z w a1 (by omega)
  by_cases a3 : 1 ≤ mo
  case neg => exact rright_no3 y mo d h mi s z w a1 a2 (by omega)
  by_cases a4 : mo ≤ 12
  case neg => exact rright_no4 y mo d h mi s z w a1 a2 a3 (by omega)
  by_cases a5 : 1 ≤ d
  case neg => exact rright_no5 y mo d h mi s z w a1 a2 a3 a4 (by omega)
  by_cases a6 : d ≤ dim y mo
  case neg => exact rright_no6 y mo d h mi s z w a1 a2 a3 a4 a5 (by omega)
  by_cases a7 : 0 ≤ h
  case neg => exact rright_no7 y mo d h mi s z w a1 a2 a3 a4 a5 a6 (by omega)
  by_cases a8 : h ≤ 23
  case neg => exact rright_no8 y mo d h mi s z w a1 a2 a3 a4 a5 a6 a7 (by omega)
  by_cases a9 : 0 ≤ mi
  case neg => exact rright_no9 y mo d h mi s z w a1 a2 a3 a4 a5 a6 a7 a8 (by omega)
  by_cases a10 : mi ≤ 59
  case neg => exact rright_no10 y mo d h mi s z w a1 a2 a3 a4 a5 a6 a7 a8 a9 (by omega)
  by_cases a11 : 0 ≤ s
  case neg => exact rright_no11 y mo d h mi s z w a1 a2 a3 a4 a5 a6 a7 a8 a9 a10 (by omega)
  by_cases a12 : s ≤ 59
  case neg => exact rright_no12 y mo d h mi s z w a1 a2 a3 a4 a5 a6 a7 a8 a9 a10 a11 (by omega)
  by_cases a13 : -959 ≤ z
  case neg => exact rright_no13 y mo d h mi s z w a1 a2 a3 a4 a5 a6 a7 a8 a9 a10 a11 a12 (by omega)
  by_cases a14 : z ≤ 959
  case neg => exact rright_no14 y mo d h mi s z w a1 a2 a3 a4 a5 a6 a7 a8 a9 a10 a11 a12 a13 (by omega)
  exact absurd ⟨a1, a2, a3, a4, a5, a6, a7, a8, a9, a10, a11, a12, a13, a14⟩ n
end Go.Proofs.YthcgdbmcpnmeeaaDoor

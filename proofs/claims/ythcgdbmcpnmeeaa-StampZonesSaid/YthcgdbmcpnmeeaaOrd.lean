/-
  The contract of StampOrder's closure: the order of a stamp by its fields.
-/
import Derived.Test.YthcgdbmcpnmeeaaAwake
namespace Go.Proofs.Ythcgdbmcpnmeeaa
set_option linter.unusedVariables false
open Go.RowKit

def ordK (y mo d h mi s : Int) : Int := ((((y * 12 + mo) * 31 + d) * 24 + h) * 60 + mi) * 60 + s

set_option maxRecDepth 8000 in
set_option maxHeartbeats 1000000 in
theorem ord_any (y mo d h mi s z : Int) (w : World) (r : RightS y mo d h mi s z) : Calls Try.prog 13 #[.agg #[.int .i64 y, .int .i64 mo, .int .i64 d, .int .i64 h, .int .i64 mi, .int .i64 s, .int .i64 z]] w fun e w' => e = .returned (.int .i64 (ordK y mo d h mi s)) ∧ Below w.heap.size w w' := by
  have hdm := dim_bd y mo
  obtain ⟨a1, a2, a3, a4, a5, a6, a7, a8, a9, a10, a11, a12, a13, a14⟩ := r
  go_enter Try.func13, Try.ntmps13
  go_wp2_with fail
  go_ret
  exact ⟨rfl, (Below.refl _ _).alloc (Nat.le_refl _) _⟩
end Go.Proofs.Ythcgdbmcpnmeeaa

/-
  The contract of awake.
-/
import Derived.Test.YtacalpgiopgkkaaDoorS8Parse
namespace Go.Proofs.YtacalpgiopgkkaaDoor
namespace S8
set_option linter.unusedVariables false
open Go.RowKit

def cText : ByteArray := ⟨#[32, 55, 45, 74, 117, 108, 45, 49, 57, 57, 54, 32, 48, 50, 58, 52, 52, 58, 50, 53, 32, 45, 48, 55, 51, 48]⟩

theorem parse_c (w : World) : Calls Tryd.prog 30 #[.string cText] w fun e w' => e = .returned (.tuple #[.agg #[.int .i64 1996, .int .i64 7, .int .i64 7, .int .i64 2, .int .i64 44, .int .i64 25, .int .i64 (-450)], .int .i64 0]) ∧ Below w.heap.size w w' := by
  have hsg : ∀ w, Calls Tryd.prog 42 #[.int .u8 (cText[21].toNat : Int), .int .i64 7, .int .i64 30] w fun e w' => e = .returned (.tuple #[.int .i64 (-450), .bool true]) ∧ w = w' := fun w => signed_minus 7 30 w (by decide) (by decide) (by decide) (by decide) (by decide)
  have hmo : ∀ w, Calls Tryd.prog 43 #[.string (cText.extract 3 6)] w fun e w' => e = .returned (.int .i64 7) ∧ Below w.heap.size w w' := fun w => by
    have hx : cText.extract 3 6 = nameB 6 := by decide +kernel
    rw [hx]
    exact month_yes 6 w (by decide)
  exact parse_yes cText w rfl 1996 7 0 7 2 44 25 7 30 (-450) (by decide +kernel) (by decide +kernel) (by decide +kernel) (by decide +kernel) (by decide +kernel) (by decide +kernel) (by decide +kernel) (by decide +kernel) (by decide +kernel) hsg hmo (by decide) (by decide) (by unfold RightS; decide +kernel)

end S8
end Go.Proofs.YtacalpgiopgkkaaDoor

/-
  What the card's proof wants of the program beside the walk.
-/
import Derived.Test.YtlfdcocaedeneaaDoorTie
import Derived.Test.YtlfdcocaedeneaaDoorSplitsW
import Derived.PinnedBridge
import Derived.Lib.LaidIn
import Derived.ProofKit
import Derived.OpenShut
import Derived.LaidMore
import Derived.Lay
import Derived.SevenTiedAt
import Derived.Stop.Joined
namespace Go.Proofs.YtlfdcocaedeneaaDoor
open Go.ChangeShapes Go.WideShapes Go.ChangeAt Go.RowKit

theorem own : ownKnob Tryd.prog.godebug = none := by kernel_rfl
theorem laidOut : laidOutB Tryd.prog = true := by kernel_rfl
end Go.Proofs.YtlfdcocaedeneaaDoor

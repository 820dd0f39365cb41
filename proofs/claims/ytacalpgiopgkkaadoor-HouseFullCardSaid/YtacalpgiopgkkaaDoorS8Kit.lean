/-
  What the texts of this seat import.
-/
import Derived.Test.YtacalpgiopgkkaaDoorS8Cal
import Derived.WalkKit
import Derived.ProofKit
import Derived.OpenShut
import Derived.ShutString
import Derived.ChangeOld
import Derived.Below
import Derived.Lib.Hide
import Derived.Outline
import Derived.WalkSmall
import Derived.BigQuiet
import Derived.Deep.QuietTactic
import Derived.Deep.RegionLaw
import Derived.Deep.RegionWith
import Derived.Deep.DeepCutAuto
import Derived.Deep.DeepFit
namespace Go.Proofs.YtacalpgiopgkkaaDoor
namespace S8
end S8
end Go.Proofs.YtacalpgiopgkkaaDoor

/-
  strings.Trim at blanks and tabs.
-/
import Derived.Test.YtlfdcocaedeneaaDoorShelfT
import Derived.Shelf.Strings.SlTrimAscii
import Derived.Test.YtlfdcocaedeneaaDoorSmall
namespace Go.Proofs.YtlfdcocaedeneaaDoor
open Go.RowKit Go.Shelf

theorem info73 : (Tryd.prog.info? 73).map (fun i => (i.zero, i.size)) = some (some (.agg (Array.replicate 256 (.bool false))), 256) := by kernel_rfl
/-- blanks and tabs are cut off at both ends -/
theorem cut_any (s : ByteArray) (w : World) (hs : s.size ≤ 9223372036854775807) :
    Calls Tryd.prog 32 #[.string s, .string ⟨#[32, 9]⟩] w fun e w' => e = .returned (.string ⟨(Lib.trimS s.data.toList [32, 9]).toArray⟩) ∧ Below w.heap.size w w' :=
  Any.strings_Trim_laid Tryd.lays160 info73 s ⟨#[32, 9]⟩ w hs (by decide) (ascii_of_all (by decide))
end Go.Proofs.YtlfdcocaedeneaaDoor

/-
  NARROWER THAN 'FOR EVERY INPUT', by the rows' own cells (each row's printed sentence says how): SectionWhole: laid · SectionParts: laid · SectionFields: laid.
  DERIVED. THE GIVEN ROWS OF THIS SEAT. 3 by the template 'for every input the law returns true; each argument reads behind the call as it read before'; 0 by the template 'total and deterministic' (their statements: YtnncldnpkfjhbaaGreatDoorTotals.lean).
  GIVEN WITH THE SEED: the statements are not yours to turn. If you find one false, say at which input.
  Laid BY PROGRAM, IN A SANDBOX (cutbox-rows.mjs): the forced cells as the released guide's own fill.sh prints them over the translation 06d6ba12f1f0eca0… (all of the seat's roots in one cut). By AI agents, Wed Nov 11 2026. No macro, syntax, notation, axiom, sorry.
-/
import Derived.Test.YtnncldnpkfjhbaaGreatDoorChecked
import GoSem.PinnedTables
import GoSem.Claim
import GoSem.ClaimJoined
import GoSem.ClaimMapViews
import Derived.JoinedTies
import Derived.KernelRfl
namespace Go.Proofs.YtnncldnpkfjhbaaGreatDoor
/- THE CELL 'sum', in the pinned program and in every row, IS THE sha256 OF THE DUMP (.gsa) THAT YtnncldnpkfjhbaaGreatDoorProg.lean LOADS. Nothing in Lean hashes anything: it is a label: what it is worth is what the hold of that sum in a sandbox is worth. -/
noncomputable def Tryz.pinned : Pinned := { name := "ytnncldnpkfjhbaagreatdoor", sum := "06d6ba12f1f0eca08c50bd17f2625be677d1e1b5b4a8ccc3a980ef225e1ccac1", checked := Tryz.checked }
namespace Rows
def none {H : Type} : Left H := { results := [], args := [] }

/- WHAT THE LISTED PACKAGE-LEVEL VARIABLES READ AS WHEN THE CALL BEGINS. Each datum BY PROGRAM (the guide's laid-datum.mjs) off the statement by which the dump's own 'gosem.cut.vars' lays the variable. In a bare row this is a premise. The card (YtnncldnpkfjhbaaGreatDoorCards.lean) ties it to the program's text. -/
def laid_unicode_utf8_acceptRanges {H : Type} : DataW H := .agg [.agg [.lit (.int .u8 128), .lit (.int .u8 191)], .agg [.lit (.int .u8 160), .lit (.int .u8 191)], .agg [.lit (.int .u8 128), .lit (.int .u8 159)], .agg [.lit (.int .u8 144), .lit (.int .u8 191)], .agg [.lit (.int .u8 128), .lit (.int .u8 143)], .agg [.lit (.int .u8 0), .lit (.int .u8 0)], .agg [.lit (.int .u8 0), .lit (.int .u8 0)], .agg [.lit (.int .u8 0), .lit (.int .u8 0)], .agg [.lit (.int .u8 0), .lit (.int .u8 0)], .agg [.lit (.int .u8 0), .lit (.int .u8 0)], .agg [.lit (.int .u8 0), .lit (.int .u8 0)], .agg [.lit (.int .u8 0), .lit (.int .u8 0)], .agg [.lit (.int .u8 0), .lit (.int .u8 0)], .agg [.lit (.int .u8 0), .lit (.int .u8 0)], .agg [.lit (.int .u8 0), .lit (.int .u8 0)], .agg [.lit (.int .u8 0), .lit (.int .u8 0)]]
/-- One of Go's own tables, pinned by name: the form's constant. -/
def laid_unicode_utf8_first : DataW Unit := Go.Pinned.utf8First

/-- 'cubbylaw16.SectionWhole': WHATEVER THE INPUT: true; the input reads as it did. -/
def sectionWholeSpec : ChangeSpec := { name := "sectionWhole", fn := fun _ => fun
  | [d1, d2] => { results := [.lit (.bool true)], args := [d1, d2] }
  | _ => none }
def sectionWholeRow : OpenClaim := { program := "ytnncldnpkfjhbaagreatdoor", sum := "06d6ba12f1f0eca08c50bd17f2625be677d1e1b5b4a8ccc3a980ef225e1ccac1", func := "cubby/cubbylaw16.SectionWhole", spec := "sectionWhole", inPlace := ["internal/bytealg.IndexByte", "internal/abi.NoEscape", "internal/bytealg.IndexByteString", "internal/bytealg.IndexString", "internal/bytealg.Count", "internal/bytealg.Index"], unfollowed := true, recurses := true, named := ["unicode/utf8.first", "unicode/utf8.acceptRanges", "internal/bytealg.MaxLen"], apart := false, laid := [("unicode/utf8.acceptRanges", laid_unicode_utf8_acceptRanges), ("unicode/utf8.first", laid_unicode_utf8_first)] }
def SectionWholeSaid : Prop := sectionWholeRow.holds Tryz.pinned (OpenSpec.ofChange sectionWholeSpec)

/-- ITS FALSE NEIGHBOUR: 'it returns false'. Refute it at one input. -/
def sectionWholeWrong : ChangeSpec := { name := "sectionWhole", fn := fun _ => fun
  | [d1, d2] => { results := [.lit (.bool false)], args := [d1, d2] }
  | _ => none }
def SectionWholeWrongFalsely : Prop := sectionWholeRow.holds Tryz.pinned (OpenSpec.ofChange sectionWholeWrong)

/-- 'cubbylaw16.SectionParts': WHATEVER THE INPUT: true; the input reads as it did. -/
def sectionPartsSpec : ChangeSpec := { name := "sectionParts", fn := fun _ => fun
  | [d1, d2] => { results := [.lit (.bool true)], args := [d1, d2] }
  | _ => none }
def sectionPartsRow : OpenClaim := { program := "ytnncldnpkfjhbaagreatdoor", sum := "06d6ba12f1f0eca08c50bd17f2625be677d1e1b5b4a8ccc3a980ef225e1ccac1", func := "cubby/cubbylaw16.SectionParts", spec := "sectionParts", inPlace := ["internal/bytealg.IndexByte", "internal/abi.NoEscape", "internal/bytealg.IndexByteString", "internal/bytealg.IndexString", "internal/bytealg.Count", "internal/bytealg.Index"], unfollowed := true, recurses := true, named := ["unicode/utf8.first", "unicode/utf8.acceptRanges", "internal/bytealg.MaxLen"], apart := false, laid := [("unicode/utf8.acceptRanges", laid_unicode_utf8_acceptRanges), ("unicode/utf8.first", laid_unicode_utf8_first)] }
def SectionPartsSaid : Prop := sectionPartsRow.holds Tryz.pinned (OpenSpec.ofChange sectionPartsSpec)

/-- ITS FALSE NEIGHBOUR: 'it returns false'. Refute it at one input. -/
def sectionPartsWrong : ChangeSpec := { name := "sectionParts", fn := fun _ => fun
  | [d1, d2] => { results := [.lit (.bool false)], args := [d1, d2] }
  | _ => none }
def SectionPartsWrongFalsely : Prop := sectionPartsRow.holds Tryz.pinned (OpenSpec.ofChange sectionPartsWrong)

/-- 'cubbylaw16.SectionFields': WHATEVER THE INPUT: true; the input reads as it did. -/
def sectionFieldsSpec : ChangeSpec := { name := "sectionFields", fn := fun _ => fun
  | [d1, d2] => { results := [.lit (.bool true)], args := [d1, d2] }
  | _ => none }
def sectionFieldsRow : OpenClaim := { program := "ytnncldnpkfjhbaagreatdoor", sum := "06d6ba12f1f0eca08c50bd17f2625be677d1e1b5b4a8ccc3a980ef225e1ccac1", func := "cubby/cubbylaw16.SectionFields", spec := "sectionFields", inPlace := ["internal/bytealg.IndexByte", "internal/abi.NoEscape", "internal/bytealg.IndexByteString", "internal/bytealg.IndexString", "internal/bytealg.Count", "internal/bytealg.Index"], unfollowed := true, recurses := true, named := ["unicode/utf8.first", "unicode/utf8.acceptRanges", "internal/bytealg.MaxLen"], apart := false, laid := [("unicode/utf8.acceptRanges", laid_unicode_utf8_acceptRanges), ("unicode/utf8.first", laid_unicode_utf8_first)] }
def SectionFieldsSaid : Prop := sectionFieldsRow.holds Tryz.pinned (OpenSpec.ofChange sectionFieldsSpec)

/-- ITS FALSE NEIGHBOUR: 'it returns false'. Refute it at one input. -/
def sectionFieldsWrong : ChangeSpec := { name := "sectionFields", fn := fun _ => fun
  | [d1, d2] => { results := [.lit (.bool false)], args := [d1, d2] }
  | _ => none }
def SectionFieldsWrongFalsely : Prop := sectionFieldsRow.holds Tryz.pinned (OpenSpec.ofChange sectionFieldsWrong)

/- THE SECOND FORM. 'bulk': how many values and letters a reading holds, each counted each time it is reached (what is shared counts as often as it is met; a slice's spare places count too). A statement '..UptoSaid' is the law's where the arguments, and the package variables that the reading takes, are together of bulk at most 1048576: NARROWER than '..Said'. Prove '..Said' where nothing that the law and all that it calls make is longer than what came in: it says more and counts as full. Else prove '..UptoSaid'. A law counts once. -/
mutual
def uptoBulk {H : Type} : DataW H → Nat
  | .lit (.string bytes) => bytes.length + 1
  | .lit _ => 1
  | .nil => 1
  | .ptr d => uptoBulk d + 1
  | .slice elems spare => uptoBulkAll elems + uptoBulkAll spare + 1
  | .agg parts => uptoBulkAll parts + 1
  | .iface _ d => uptoBulk d + 1
  | .map entries => uptoBulkEntries entries + 1
  | .held _ => 1
def uptoBulkAll {H : Type} : List (DataW H) → Nat
  | [] => 0
  | d :: r => uptoBulk d + uptoBulkAll r
def uptoBulkEntries {H : Type} : List (Lit × DataW H) → Nat
  | [] => 0
  | x :: r => uptoBulkEntry x + uptoBulkEntries r
def uptoBulkEntry {H : Type} : Lit × DataW H → Nat
  | (.string bytes, d) => bytes.length + uptoBulk d + 1
  | (_, d) => uptoBulk d + 1
 end
def uptoSmall : (H : Type) → List (DataW H) → Bool := fun _ ds => decide (uptoBulkAll ds ≤ 1048576)
def OpenSpec.upto (s : _root_.Go.ChangeSpec) : _root_.Go.OpenSpec := { _root_.Go.OpenSpec.ofChange s with cond := some uptoSmall }

/-- 'cubbylaw16.SectionWhole', WHERE WHAT IT READS IS OF BULK AT MOST 1048576: true; the input reads as it did. -/
def sectionWholeUptoRow : OpenClaim := { program := "ytnncldnpkfjhbaagreatdoor", sum := "06d6ba12f1f0eca08c50bd17f2625be677d1e1b5b4a8ccc3a980ef225e1ccac1", func := "cubby/cubbylaw16.SectionWhole", spec := "sectionWhole", inPlace := ["internal/bytealg.IndexByte", "internal/abi.NoEscape", "internal/bytealg.IndexByteString", "internal/bytealg.IndexString", "internal/bytealg.Count", "internal/bytealg.Index"], unfollowed := true, recurses := true, named := ["unicode/utf8.first", "unicode/utf8.acceptRanges", "internal/bytealg.MaxLen"], apart := false, laid := [("unicode/utf8.acceptRanges", laid_unicode_utf8_acceptRanges), ("unicode/utf8.first", laid_unicode_utf8_first)], narrowed := true }
def SectionWholeUptoSaid : Prop := sectionWholeUptoRow.holds Tryz.pinned (OpenSpec.upto sectionWholeSpec)

/-- 'cubbylaw16.SectionParts', WHERE WHAT IT READS IS OF BULK AT MOST 1048576: true; the input reads as it did. -/
def sectionPartsUptoRow : OpenClaim := { program := "ytnncldnpkfjhbaagreatdoor", sum := "06d6ba12f1f0eca08c50bd17f2625be677d1e1b5b4a8ccc3a980ef225e1ccac1", func := "cubby/cubbylaw16.SectionParts", spec := "sectionParts", inPlace := ["internal/bytealg.IndexByte", "internal/abi.NoEscape", "internal/bytealg.IndexByteString", "internal/bytealg.IndexString", "internal/bytealg.Count", "internal/bytealg.Index"], unfollowed := true, recurses := true, named := ["unicode/utf8.first", "unicode/utf8.acceptRanges", "internal/bytealg.MaxLen"], apart := false, laid := [("unicode/utf8.acceptRanges", laid_unicode_utf8_acceptRanges), ("unicode/utf8.first", laid_unicode_utf8_first)], narrowed := true }
def SectionPartsUptoSaid : Prop := sectionPartsUptoRow.holds Tryz.pinned (OpenSpec.upto sectionPartsSpec)

/-- 'cubbylaw16.SectionFields', WHERE WHAT IT READS IS OF BULK AT MOST 1048576: true; the input reads as it did. -/
def sectionFieldsUptoRow : OpenClaim := { program := "ytnncldnpkfjhbaagreatdoor", sum := "06d6ba12f1f0eca08c50bd17f2625be677d1e1b5b4a8ccc3a980ef225e1ccac1", func := "cubby/cubbylaw16.SectionFields", spec := "sectionFields", inPlace := ["internal/bytealg.IndexByte", "internal/abi.NoEscape", "internal/bytealg.IndexByteString", "internal/bytealg.IndexString", "internal/bytealg.Count", "internal/bytealg.Index"], unfollowed := true, recurses := true, named := ["unicode/utf8.first", "unicode/utf8.acceptRanges", "internal/bytealg.MaxLen"], apart := false, laid := [("unicode/utf8.acceptRanges", laid_unicode_utf8_acceptRanges), ("unicode/utf8.first", laid_unicode_utf8_first)], narrowed := true }
def SectionFieldsUptoSaid : Prop := sectionFieldsUptoRow.holds Tryz.pinned (OpenSpec.upto sectionFieldsSpec)

end Rows
end Go.Proofs.YtnncldnpkfjhbaaGreatDoor

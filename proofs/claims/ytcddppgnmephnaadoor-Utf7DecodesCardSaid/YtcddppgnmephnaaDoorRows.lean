/-
  NARROWER THAN 'FOR EVERY INPUT', by the rows' own cells (each row's printed sentence says how): Utf7Encodes: laid · Utf7Decodes: laid · Utf7Back: laid · Utf7Right: laid · Utf7Parts: laid · Utf7Plain: laid.
  DERIVED. THE GIVEN ROWS OF THIS SEAT. 6 by the template 'for every input the law returns true; each argument reads behind the call as it read before'; 0 by the template 'total and deterministic' (their statements: YtcddppgnmephnaaDoorTotals.lean).
  GIVEN WITH THE SEED: the statements are not yours to turn. If you find one false, say at which input.
  Laid BY PROGRAM, IN A SANDBOX (cutbox-rows.mjs): the forced cells as the released guide's own fill.sh prints them over the translation fe3c014e4aee1212… (all of the seat's roots in one cut). By AI agents, Wed Nov 11 2026. No macro, syntax, notation, axiom, sorry.
-/
import Derived.Test.YtcddppgnmephnaaDoorChecked
import GoSem.PinnedTables
import GoSem.Claim
import GoSem.ClaimJoined
import GoSem.ClaimMapViews
import Derived.JoinedTies
import Derived.KernelRfl
namespace Go.Proofs.YtcddppgnmephnaaDoor
/- THE CELL 'sum', in the pinned program and in every row, IS THE sha256 OF THE DUMP (.gsa) THAT YtcddppgnmephnaaDoorProg.lean LOADS. Nothing in Lean hashes anything: it is a label: what it is worth is what the hold of that sum in a sandbox is worth. -/
noncomputable def Tryd.pinned : Pinned := { name := "ytcddppgnmephnaadoor", sum := "fe3c014e4aee1212bc5b39b6ec65945fbaa15b3e5fec4edb4b0082163e68b030", checked := Tryd.checked }
namespace Rows
def none {H : Type} : Left H := { results := [], args := [] }

/- WHAT THE LISTED PACKAGE-LEVEL VARIABLES READ AS WHEN THE CALL BEGINS. Each datum BY PROGRAM (the guide's laid-datum.mjs) off the statement by which the dump's own 'gosem.cut.vars' lays the variable. In a bare row this is a premise. The card (YtcddppgnmephnaaDoorCards.lean) ties it to the program's text. -/
def laid_unicode_utf8_acceptRanges {H : Type} : DataW H := .agg [.agg [.lit (.int .u8 128), .lit (.int .u8 191)], .agg [.lit (.int .u8 160), .lit (.int .u8 191)], .agg [.lit (.int .u8 128), .lit (.int .u8 159)], .agg [.lit (.int .u8 144), .lit (.int .u8 191)], .agg [.lit (.int .u8 128), .lit (.int .u8 143)], .agg [.lit (.int .u8 0), .lit (.int .u8 0)], .agg [.lit (.int .u8 0), .lit (.int .u8 0)], .agg [.lit (.int .u8 0), .lit (.int .u8 0)], .agg [.lit (.int .u8 0), .lit (.int .u8 0)], .agg [.lit (.int .u8 0), .lit (.int .u8 0)], .agg [.lit (.int .u8 0), .lit (.int .u8 0)], .agg [.lit (.int .u8 0), .lit (.int .u8 0)], .agg [.lit (.int .u8 0), .lit (.int .u8 0)], .agg [.lit (.int .u8 0), .lit (.int .u8 0)], .agg [.lit (.int .u8 0), .lit (.int .u8 0)], .agg [.lit (.int .u8 0), .lit (.int .u8 0)]]
/-- One of Go's own tables, pinned by name: the form's constant. -/
def laid_unicode_utf8_first : DataW Unit := Go.Pinned.utf8First

/-- 'cubbylaw05.Utf7Encodes': WHATEVER THE INPUT: true; the input reads as it did. -/
def utf7EncodesSpec : ChangeSpec := { name := "utf7Encodes", fn := fun _ => fun
  | [d] => { results := [.lit (.bool true)], args := [d] }
  | _ => none }
def utf7EncodesRow : OpenClaim := { program := "ytcddppgnmephnaadoor", sum := "fe3c014e4aee1212bc5b39b6ec65945fbaa15b3e5fec4edb4b0082163e68b030", func := "cubby/cubbylaw05.Utf7Encodes", spec := "utf7Encodes", inPlace := ["internal/abi.NoEscape"], named := ["unicode/utf8.first", "unicode/utf8.acceptRanges"], apart := false, laid := [("unicode/utf8.acceptRanges", laid_unicode_utf8_acceptRanges), ("unicode/utf8.first", laid_unicode_utf8_first)] }
def Utf7EncodesSaid : Prop := utf7EncodesRow.holds Tryd.pinned (OpenSpec.ofChange utf7EncodesSpec)

/-- ITS FALSE NEIGHBOUR: 'it returns false'. Refute it at one input. -/
def utf7EncodesWrong : ChangeSpec := { name := "utf7Encodes", fn := fun _ => fun
  | [d] => { results := [.lit (.bool false)], args := [d] }
  | _ => none }
def Utf7EncodesWrongFalsely : Prop := utf7EncodesRow.holds Tryd.pinned (OpenSpec.ofChange utf7EncodesWrong)

/-- 'cubbylaw05.Utf7Decodes': WHATEVER THE INPUT: true; the input reads as it did. -/
def utf7DecodesSpec : ChangeSpec := { name := "utf7Decodes", fn := fun _ => fun
  | [d] => { results := [.lit (.bool true)], args := [d] }
  | _ => none }
def utf7DecodesRow : OpenClaim := { program := "ytcddppgnmephnaadoor", sum := "fe3c014e4aee1212bc5b39b6ec65945fbaa15b3e5fec4edb4b0082163e68b030", func := "cubby/cubbylaw05.Utf7Decodes", spec := "utf7Decodes", inPlace := ["internal/abi.NoEscape", "internal/bytealg.IndexByteString", "internal/bytealg.IndexString"], named := ["internal/bytealg.MaxLen", "unicode/utf8.first", "unicode/utf8.acceptRanges"], apart := false, laid := [("unicode/utf8.acceptRanges", laid_unicode_utf8_acceptRanges), ("unicode/utf8.first", laid_unicode_utf8_first)] }
def Utf7DecodesSaid : Prop := utf7DecodesRow.holds Tryd.pinned (OpenSpec.ofChange utf7DecodesSpec)

/-- ITS FALSE NEIGHBOUR: 'it returns false'. Refute it at one input. -/
def utf7DecodesWrong : ChangeSpec := { name := "utf7Decodes", fn := fun _ => fun
  | [d] => { results := [.lit (.bool false)], args := [d] }
  | _ => none }
def Utf7DecodesWrongFalsely : Prop := utf7DecodesRow.holds Tryd.pinned (OpenSpec.ofChange utf7DecodesWrong)

/-- 'cubbylaw05.Utf7Back': WHATEVER THE INPUT: true; the input reads as it did. -/
def utf7BackSpec : ChangeSpec := { name := "utf7Back", fn := fun _ => fun
  | [d1, d2] => { results := [.lit (.bool true)], args := [d1, d2] }
  | _ => none }
def utf7BackRow : OpenClaim := { program := "ytcddppgnmephnaadoor", sum := "fe3c014e4aee1212bc5b39b6ec65945fbaa15b3e5fec4edb4b0082163e68b030", func := "cubby/cubbylaw05.Utf7Back", spec := "utf7Back", inPlace := ["internal/abi.NoEscape", "internal/bytealg.IndexByteString", "internal/bytealg.IndexString"], named := ["unicode/utf8.first", "unicode/utf8.acceptRanges", "internal/bytealg.MaxLen"], apart := false, laid := [("unicode/utf8.acceptRanges", laid_unicode_utf8_acceptRanges), ("unicode/utf8.first", laid_unicode_utf8_first)] }
def Utf7BackSaid : Prop := utf7BackRow.holds Tryd.pinned (OpenSpec.ofChange utf7BackSpec)

/-- ITS FALSE NEIGHBOUR: 'it returns false'. Refute it at one input. -/
def utf7BackWrong : ChangeSpec := { name := "utf7Back", fn := fun _ => fun
  | [d1, d2] => { results := [.lit (.bool false)], args := [d1, d2] }
  | _ => none }
def Utf7BackWrongFalsely : Prop := utf7BackRow.holds Tryd.pinned (OpenSpec.ofChange utf7BackWrong)

/-- 'cubbylaw05.Utf7Right': WHATEVER THE INPUT: true; the input reads as it did. -/
def utf7RightSpec : ChangeSpec := { name := "utf7Right", fn := fun _ => fun
  | [d] => { results := [.lit (.bool true)], args := [d] }
  | _ => none }
def utf7RightRow : OpenClaim := { program := "ytcddppgnmephnaadoor", sum := "fe3c014e4aee1212bc5b39b6ec65945fbaa15b3e5fec4edb4b0082163e68b030", func := "cubby/cubbylaw05.Utf7Right", spec := "utf7Right", inPlace := ["internal/abi.NoEscape"], named := ["unicode/utf8.first", "unicode/utf8.acceptRanges"], apart := false, laid := [("unicode/utf8.acceptRanges", laid_unicode_utf8_acceptRanges), ("unicode/utf8.first", laid_unicode_utf8_first)] }
def Utf7RightSaid : Prop := utf7RightRow.holds Tryd.pinned (OpenSpec.ofChange utf7RightSpec)

/-- ITS FALSE NEIGHBOUR: 'it returns false'. Refute it at one input. -/
def utf7RightWrong : ChangeSpec := { name := "utf7Right", fn := fun _ => fun
  | [d] => { results := [.lit (.bool false)], args := [d] }
  | _ => none }
def Utf7RightWrongFalsely : Prop := utf7RightRow.holds Tryd.pinned (OpenSpec.ofChange utf7RightWrong)

/-- 'cubbylaw05.Utf7Parts': WHATEVER THE INPUT: true; the input reads as it did. -/
def utf7PartsSpec : ChangeSpec := { name := "utf7Parts", fn := fun _ => fun
  | [d1, d2] => { results := [.lit (.bool true)], args := [d1, d2] }
  | _ => none }
def utf7PartsRow : OpenClaim := { program := "ytcddppgnmephnaadoor", sum := "fe3c014e4aee1212bc5b39b6ec65945fbaa15b3e5fec4edb4b0082163e68b030", func := "cubby/cubbylaw05.Utf7Parts", spec := "utf7Parts", inPlace := ["internal/abi.NoEscape"], named := ["unicode/utf8.first", "unicode/utf8.acceptRanges"], apart := false, laid := [("unicode/utf8.acceptRanges", laid_unicode_utf8_acceptRanges), ("unicode/utf8.first", laid_unicode_utf8_first)] }
def Utf7PartsSaid : Prop := utf7PartsRow.holds Tryd.pinned (OpenSpec.ofChange utf7PartsSpec)

/-- ITS FALSE NEIGHBOUR: 'it returns false'. Refute it at one input. -/
def utf7PartsWrong : ChangeSpec := { name := "utf7Parts", fn := fun _ => fun
  | [d1, d2] => { results := [.lit (.bool false)], args := [d1, d2] }
  | _ => none }
def Utf7PartsWrongFalsely : Prop := utf7PartsRow.holds Tryd.pinned (OpenSpec.ofChange utf7PartsWrong)

/-- 'cubbylaw05.Utf7Plain': WHATEVER THE INPUT: true; the input reads as it did. -/
def utf7PlainSpec : ChangeSpec := { name := "utf7Plain", fn := fun _ => fun
  | [d] => { results := [.lit (.bool true)], args := [d] }
  | _ => none }
def utf7PlainRow : OpenClaim := { program := "ytcddppgnmephnaadoor", sum := "fe3c014e4aee1212bc5b39b6ec65945fbaa15b3e5fec4edb4b0082163e68b030", func := "cubby/cubbylaw05.Utf7Plain", spec := "utf7Plain", inPlace := ["internal/abi.NoEscape", "internal/bytealg.IndexByteString", "internal/bytealg.IndexString"], named := ["unicode/utf8.first", "unicode/utf8.acceptRanges", "internal/bytealg.MaxLen"], apart := false, laid := [("unicode/utf8.acceptRanges", laid_unicode_utf8_acceptRanges), ("unicode/utf8.first", laid_unicode_utf8_first)] }
def Utf7PlainSaid : Prop := utf7PlainRow.holds Tryd.pinned (OpenSpec.ofChange utf7PlainSpec)

/-- ITS FALSE NEIGHBOUR: 'it returns false'. Refute it at one input. -/
def utf7PlainWrong : ChangeSpec := { name := "utf7Plain", fn := fun _ => fun
  | [d] => { results := [.lit (.bool false)], args := [d] }
  | _ => none }
def Utf7PlainWrongFalsely : Prop := utf7PlainRow.holds Tryd.pinned (OpenSpec.ofChange utf7PlainWrong)

/- THE SECOND FORM. 'bulk': how many values and letters a reading holds, each counted each time it is reached (what is shared counts as often as it is met; a slice's spare places count too). A statement '..UptoSaid' is the law's where the arguments, and the package variables that the reading takes, are together of bulk at most 1048576: NARROWER than '..Said'. Prove '..Said' where nothing that the law and all that it calls make is longer than what came in: it says more and counts as full. Else prove '..UptoSaid'. A law counts once. -/
mutual
def uptoBulk {H : Type} : DataW H → Nat
  | .lit (.string bytes) => bytes.length + 1
  | .lit _ => 1
  | .nil => 1
  | .ptr d => uptoBulk d + 1
  | .slice elems spare => uptoBulkAll elems + uptoBulkAll spare + 1
  | .agg parts => uptoBulkAll parts + 1
  | .iface _ d => uptoBulk d + 1
  | .map entries => uptoBulkEntries entries + 1
  | .held _ => 1
def uptoBulkAll {H : Type} : List (DataW H) → Nat
  | [] => 0
  | d :: r => uptoBulk d + uptoBulkAll r
def uptoBulkEntries {H : Type} : List (Lit × DataW H) → Nat
  | [] => 0
  | x :: r => uptoBulkEntry x + uptoBulkEntries r
def uptoBulkEntry {H : Type} : Lit × DataW H → Nat
  | (.string bytes, d) => bytes.length + uptoBulk d + 1
  | (_, d) => uptoBulk d + 1
 end
def uptoSmall : (H : Type) → List (DataW H) → Bool := fun _ ds => decide (uptoBulkAll ds ≤ 1048576)
def OpenSpec.upto (s : _root_.Go.ChangeSpec) : _root_.Go.OpenSpec := { _root_.Go.OpenSpec.ofChange s with cond := some uptoSmall }

/-- 'cubbylaw05.Utf7Encodes', WHERE WHAT IT READS IS OF BULK AT MOST 1048576: true; the input reads as it did. -/
def utf7EncodesUptoRow : OpenClaim := { program := "ytcddppgnmephnaadoor", sum := "fe3c014e4aee1212bc5b39b6ec65945fbaa15b3e5fec4edb4b0082163e68b030", func := "cubby/cubbylaw05.Utf7Encodes", spec := "utf7Encodes", inPlace := ["internal/abi.NoEscape"], named := ["unicode/utf8.first", "unicode/utf8.acceptRanges"], apart := false, laid := [("unicode/utf8.acceptRanges", laid_unicode_utf8_acceptRanges), ("unicode/utf8.first", laid_unicode_utf8_first)], narrowed := true }
def Utf7EncodesUptoSaid : Prop := utf7EncodesUptoRow.holds Tryd.pinned (OpenSpec.upto utf7EncodesSpec)

/-- 'cubbylaw05.Utf7Decodes', WHERE WHAT IT READS IS OF BULK AT MOST 1048576: true; the input reads as it did. -/
def utf7DecodesUptoRow : OpenClaim := { program := "ytcddppgnmephnaadoor", sum := "fe3c014e4aee1212bc5b39b6ec65945fbaa15b3e5fec4edb4b0082163e68b030", func := "cubby/cubbylaw05.Utf7Decodes", spec := "utf7Decodes", inPlace := ["internal/abi.NoEscape", "internal/bytealg.IndexByteString", "internal/bytealg.IndexString"], named := ["internal/bytealg.MaxLen", "unicode/utf8.first", "unicode/utf8.acceptRanges"], apart := false, laid := [("unicode/utf8.acceptRanges", laid_unicode_utf8_acceptRanges), ("unicode/utf8.first", laid_unicode_utf8_first)], narrowed := true }
def Utf7DecodesUptoSaid : Prop := utf7DecodesUptoRow.holds Tryd.pinned (OpenSpec.upto utf7DecodesSpec)

/-- 'cubbylaw05.Utf7Back', WHERE WHAT IT READS IS OF BULK AT MOST 1048576: true; the input reads as it did. -/
def utf7BackUptoRow : OpenClaim := { program := "ytcddppgnmephnaadoor", sum := "fe3c014e4aee1212bc5b39b6ec65945fbaa15b3e5fec4edb4b0082163e68b030", func := "cubby/cubbylaw05.Utf7Back", spec := "utf7Back", inPlace := ["internal/abi.NoEscape", "internal/bytealg.IndexByteString", "internal/bytealg.IndexString"], named := ["unicode/utf8.first", "unicode/utf8.acceptRanges", "internal/bytealg.MaxLen"], apart := false, laid := [("unicode/utf8.acceptRanges", laid_unicode_utf8_acceptRanges), ("unicode/utf8.first", laid_unicode_utf8_first)], narrowed := true }
def Utf7BackUptoSaid : Prop := utf7BackUptoRow.holds Tryd.pinned (OpenSpec.upto utf7BackSpec)

/-- 'cubbylaw05.Utf7Right', WHERE WHAT IT READS IS OF BULK AT MOST 1048576: true; the input reads as it did. -/
def utf7RightUptoRow : OpenClaim := { program := "ytcddppgnmephnaadoor", sum := "fe3c014e4aee1212bc5b39b6ec65945fbaa15b3e5fec4edb4b0082163e68b030", func := "cubby/cubbylaw05.Utf7Right", spec := "utf7Right", inPlace := ["internal/abi.NoEscape"], named := ["unicode/utf8.first", "unicode/utf8.acceptRanges"], apart := false, laid := [("unicode/utf8.acceptRanges", laid_unicode_utf8_acceptRanges), ("unicode/utf8.first", laid_unicode_utf8_first)], narrowed := true }
def Utf7RightUptoSaid : Prop := utf7RightUptoRow.holds Tryd.pinned (OpenSpec.upto utf7RightSpec)

/-- 'cubbylaw05.Utf7Parts', WHERE WHAT IT READS IS OF BULK AT MOST 1048576: true; the input reads as it did. -/
def utf7PartsUptoRow : OpenClaim := { program := "ytcddppgnmephnaadoor", sum := "fe3c014e4aee1212bc5b39b6ec65945fbaa15b3e5fec4edb4b0082163e68b030", func := "cubby/cubbylaw05.Utf7Parts", spec := "utf7Parts", inPlace := ["internal/abi.NoEscape"], named := ["unicode/utf8.first", "unicode/utf8.acceptRanges"], apart := false, laid := [("unicode/utf8.acceptRanges", laid_unicode_utf8_acceptRanges), ("unicode/utf8.first", laid_unicode_utf8_first)], narrowed := true }
def Utf7PartsUptoSaid : Prop := utf7PartsUptoRow.holds Tryd.pinned (OpenSpec.upto utf7PartsSpec)

/-- 'cubbylaw05.Utf7Plain', WHERE WHAT IT READS IS OF BULK AT MOST 1048576: true; the input reads as it did. -/
def utf7PlainUptoRow : OpenClaim := { program := "ytcddppgnmephnaadoor", sum := "fe3c014e4aee1212bc5b39b6ec65945fbaa15b3e5fec4edb4b0082163e68b030", func := "cubby/cubbylaw05.Utf7Plain", spec := "utf7Plain", inPlace := ["internal/abi.NoEscape", "internal/bytealg.IndexByteString", "internal/bytealg.IndexString"], named := ["unicode/utf8.first", "unicode/utf8.acceptRanges", "internal/bytealg.MaxLen"], apart := false, laid := [("unicode/utf8.acceptRanges", laid_unicode_utf8_acceptRanges), ("unicode/utf8.first", laid_unicode_utf8_first)], narrowed := true }
def Utf7PlainUptoSaid : Prop := utf7PlainUptoRow.holds Tryd.pinned (OpenSpec.upto utf7PlainSpec)

end Rows
end Go.Proofs.YtcddppgnmephnaaDoor
